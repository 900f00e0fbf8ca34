/-
  What the copies, comparisons and marks of links by value answer. Conditions: the rows can be read; at most 2^20 numbers in all.
-/
import Derived.Test.YtlgcacoggikfcaaPw9
import Derived.Test.YtlgcacoggikfcaaMarks
import Derived.Deep.QuietTactic
import Derived.Lib.SmallJoins
namespace Go.Proofs.Ytlgcacoggikfcaa
open Go.RowKit

theorem CpR.grown {W W' : World} {b0 b k : Nat} {R : List (List Int)} {blk : Nat → Nat} (h : CpR W b0 R k blk) (hg : W.grownBy W' (some b)) (hb : b < b0) : CpR W' b0 R k blk :=
  ⟨h.row.of_block (hg.block _ h.row.lt (fun e => by injection e; omega)), fun i hi => ⟨(h.at_ i hi).1, (h.at_ i hi).2.of_block (hg.block _ (h.at_ i hi).2.lt (fun e => by injection e; have := (h.at_ i hi).1; omega))⟩, h.inc⟩
theorem row3 {W : World} {b : Nat} {t : TypeId} {f : Nat → Value} (h : W.rowIs b t 3 f) : W.heap[b]? = some (.cells #[f 0, f 1, f 2] t (0, 0)) := by
  obtain ⟨c, h1, h2, h3⟩ := h
  obtain ⟨x, y, z, rfl⟩ := Go.Joins.array3 h2
  have e0 := h3 0 (by omega)
  have e1 := h3 1 (by omega)
  have e2 := h3 2 (by omega)
  simp at e0 e1 e2
  rw [h1, ← e0, ← e1, ← e2]
/-- A variable of links: three cells of the call's own. -/
def LkVar (W : World) (b : Nat) (x y z : Value) : Prop := W.rowIs b 25 3 (fun j => if j = 0 then x else if j = 1 then y else z)
section
variable {W W' : World} {b : Nat} {x y z : Value}
theorem LkVar.g (h : LkVar W b x y z) : W.cell? ⟨b, 0, none⟩ = some x := World.rowIs.cell h (i := 0) (by omega)
theorem LkVar.n (h : LkVar W b x y z) : W.cell? ⟨b, 1, none⟩ = some y := World.rowIs.cell h (i := 1) (by omega)
theorem LkVar.t (h : LkVar W b x y z) : W.cell? ⟨b, 2, none⟩ = some z := World.rowIs.cell h (i := 2) (by omega)
theorem LkVar.f (h : LkVar W b x y z) (i : Nat) : W.frozen? ⟨b, i, none⟩ = false := World.rowIs.frozen h i
theorem LkVar.lt (h : LkVar W b x y z) : b < W.heap.size := World.rowIs.lt h
theorem LkVar.next (h : LkVar W b x y z) (hb : Below W.heap.size W W') : LkVar W' b x y z := World.rowIs.of_block h (hb.block b h.lt)
theorem LkVar.drewN (h : LkVar W b x y z) (n : Nat) : LkVar (W.drewN n) b x y z := h
theorem LkVar.grown {c : Nat} (h : LkVar W b x y z) (hg : W.grownBy W' (some c)) (hne : b ≠ c) : LkVar W' b x y z := World.rowIs.of_block h (hg.block b h.lt (fun e => hne (by injection e)))
theorem LkVar.setG (h : LkVar W b x y z) (v : Value) : LkVar (W.setCell ⟨b, 0, none⟩ v) b v y z := (World.rowIs.set h 0 v).congr fun j _ => by by_cases e : j = 0 <;> simp [e]
theorem LkVar.setN (h : LkVar W b x y z) (v : Value) : LkVar (W.setCell ⟨b, 1, none⟩ v) b x v z := (World.rowIs.set h 1 v).congr fun j _ => by
  by_cases e : j = 1
  · subst e; simp
  · by_cases e2 : j = 0 <;> simp [e, e2]
theorem LkVar.setT (h : LkVar W b x y z) (v : Value) : LkVar (W.setCell ⟨b, 2, none⟩ v) b x y v := (World.rowIs.set h 2 v).congr fun j hj => by
  by_cases e : j = 2
  · subst e; simp
  · by_cases e2 : j = 0
    · simp [e2]
    · have : j = 1 := by omega
      subst this; simp
theorem LkVar.heap (h : LkVar W b x y z) : W.heap[b]? = some (.cells #[x, y, z] 25 (0, 0)) := row3 h
end
theorem lkVar_new (w : World) (x y z : Value) : LkVar (w.alloc (.cells #[x, y, z] 25)) w.heap.size x y z :=
  ⟨_, heap_alloc_last _ _, rfl, fun i hi => by
    match i, hi with
    | 0, _ | 1, _ | 2, _ => rfl⟩
theorem infoLk : (Try.prog.info? 25).map (·.size) = some 3 := by kernel_rfl
set_option maxHeartbeats 1000000 in
theorem toLinks_any (a : Option Addr) (c : Nat) (R : List (List Int)) (N T : Int) (w : World) (hr : RowsL w w.heap.size a R) (hz : SzOk R) :
    Calls Try.prog 27 #[.agg #[.slice a R.length c, .int .i64 N, .int .i64 T]] w fun e w' => ∃ b0, e = .returned (.agg #[.slice (some ⟨b0, 0, none⟩) R.length R.length, .int .i64 N, .int .i64 T]) ∧ w.heap.size ≤ b0 ∧ (∃ blk, CpR w' b0 R R.length blk) ∧ Below w.heap.size w w' := by
  have hb0 := lbox_new w a R.length c N T 38
  have V1 := lkVar_new (w.alloc (.cells #[.slice a R.length c, .int .i64 N, .int .i64 T] 38)) (.slice none 0 0) (.int .i64 0) (.int .i64 0)
  have V2 := lkVar_new ((w.alloc (.cells #[.slice a R.length c, .int .i64 N, .int .i64 T] 38)).alloc (.cells #[.slice none 0 0, .int .i64 0, .int .i64 0] 25)) (.slice none 0 0) (.int .i64 0) (.int .i64 0)
  have HB := Lib.hid ((hb0.next (alloc_belowX _ (.cells #[.slice none 0 0, .int .i64 0, .int .i64 0] 25))).next (alloc_belowX _ (.cells #[.slice none 0 0, .int .i64 0, .int .i64 0] 25)))
  have e1 : (w.alloc (.cells #[.slice a R.length c, .int .i64 N, .int .i64 T] 38)).heap.size = w.heap.size + 1 := by simp
  have e2 : ((w.alloc (.cells #[.slice a R.length c, .int .i64 N, .int .i64 T] 38)).alloc (.cells #[.slice none 0 0, .int .i64 0, .int .i64 0] 25)).heap.size = w.heap.size + 1 + 1 := by simp
  have V1 := V1.next (alloc_belowX _ (.cells #[.slice none 0 0, .int .i64 0, .int .i64 0] 25))
  rw [e1] at V1
  rw [e2] at V2
  have V1 := Lib.hid V1
  have V2 := Lib.hid V2
  have HT := Lib.hid (toIntSS_any a c R _ ((hr.below HB.out.b).more HB.out.b.size) hz)
  have e3 : (((w.alloc (.cells #[.slice a R.length c, .int .i64 N, .int .i64 T] 38)).alloc (.cells #[.slice none 0 0, .int .i64 0, .int .i64 0] 25)).alloc (.cells #[.slice none 0 0, .int .i64 0, .int .i64 0] 25)).heap.size = w.heap.size + 1 + 1 + 1 := by simp
  have hbg := HB.out.g
  have hbn := HB.out.n
  have hbt := HB.out.t
  clear hr hz hb0 e1 e2
  go_enter Try.func27, Try.ntmps27
  go_wp2_with fail
  generalize (((w.alloc (.cells #[.slice a R.length c, .int .i64 N, .int .i64 T] 38)).alloc (.cells #[.slice none 0 0, .int .i64 0, .int .i64 0] 25)).alloc (.cells #[.slice none 0 0, .int .i64 0, .int .i64 0] 25)) = W0 at *
  refine HT.out.mono ?_
  rintro e w1 ⟨rfl, ⟨blk, hcp⟩, hb1⟩
  rw [e3] at hcp
  have HC := Lib.hid hcp
  have B1 := Lib.hid (HB.out.next hb1)
  have X1 := Lib.hid (V1.out.next hb1)
  have X2 := Lib.hid (V2.out.next hb1)
  clear hcp hb1 HB V1 V2 hbg hbn hbt HT
  have hbg := B1.out.g
  have hbn := B1.out.n
  have hbt := B1.out.t
  have f1 := X1.out.f
  have f2 := X2.out.f
  have g1 := X1.out.g
  have n1 := X1.out.n
  have t1 := X1.out.t
  have g2 := X2.out.g
  have n2 := X2.out.n
  have t2 := X2.out.t
  rw [e3]
  go_wp2
  have G2 := Lib.grownBy_setB (Lib.grownBy_setB (Lib.grownBy_setCell w1 (w.heap.size + 1 + 1) 0 (.slice (some ⟨w.heap.size + 1 + 1 + 1, 0, none⟩) R.length R.length)) 1 (.int .i64 N)) 2 (.int .i64 T)
  have G3 := Lib.grownBy_setB (Lib.grownBy_setB (Lib.grownBy_setCell (((w1.setCell ⟨w.heap.size + 1 + 1, 0, none⟩ (.slice (some ⟨w.heap.size + 1 + 1 + 1, 0, none⟩) R.length R.length)).setCell ⟨w.heap.size + 1 + 1, 1, none⟩ (.int .i64 N)).setCell ⟨w.heap.size + 1 + 1, 2, none⟩ (.int .i64 T)) (w.heap.size + 1) 0 (.slice (some ⟨w.heap.size + 1 + 1 + 1, 0, none⟩) R.length R.length)) 1 (.int .i64 N)) 2 (.int .i64 T)
  have Y := (((X1.out.grown G2 (by omega)).setG (.slice (some ⟨w.heap.size + 1 + 1 + 1, 0, none⟩) R.length R.length)).setN (.int .i64 N)).setT (.int .i64 T)
  have hs1 := B1.out.lt
  refine bodyPost_ret (results_cell_row (P := Try.prog) rfl _ _ (w.heap.size + 1) 25 #[.slice (some ⟨w.heap.size + 1 + 1 + 1, 0, none⟩) R.length R.length, .int .i64 N, .int .i64 T] (0, 0) _ rfl Y.heap Try.underlying25 rfl (by rw [infoLk]; rfl)) rfl ?_
  exact ⟨_, rfl, by omega, ⟨blk, (HC.out.grown G2 (by omega)).grown G3 (by omega)⟩, (B1.out.b.grown G2 (by omega) (fun k hk => by injection hk; omega)).grown G3 (Nat.le_trans (by omega) G2.size) (fun k hk => by injection hk; omega)⟩
set_option maxHeartbeats 1000000 in
theorem eqIntSS_same (a a' : Option Addr) (c c' B B' : Nat) (R : List (List Int)) (w : World) (hx : RowsL w B a R) (hy : RowsL w B' a' R) (hz : SzOk R) :
    Calls Try.prog 50 #[.slice a R.length c, .slice a' R.length c'] w fun e w' => e = .returned (.bool true) ∧ ∃ n, w' = w.drewN n := by
  have hl : R.length ≤ 1048576 := by unfold SzOk at hz; omega
  have HX := Lib.hid hx
  have HY := Lib.hid hy
  have HZ := Lib.hid hz
  have z : ((R.length : Int) != (R.length : Int)) = false := by simp
  clear hx hy hz
  go_enter Try.func50, Try.ntmps50
  go_wp2
  clear z
  go_loopw [5] (fun i wr => ∃ k q : Nat, k ≤ R.length ∧ i = .int .i64 k ∧ wr = w.drewN q) (fun i _ => R.length - (intOf i).toNat)
  case atStart => exact ⟨0, 0, Nat.zero_le _, rfl, rfl⟩
  case round =>
    obtain ⟨k, q, hk, rfl, hq⟩ := hrel
    have HX := Lib.hid (show RowsL wr B a R by rw [hq]; exact HX.out.drewN q)
    have HY := Lib.hid (show RowsL wr B' a' R by rw [hq]; exact HY.out.drewN q)
    have HQ := Lib.hid hq
    clear hq
    by_cases hlt : k < R.length
    · obtain ⟨b, off, ad, cp, rfl, hrow, _, _, hin⟩ := HX.out.at_ hlt
      obtain ⟨b', off', ad', cp', rfl, hrow', _, _, hin'⟩ := HY.out.at_ hlt
      have HE := Lib.hid (fun m => show Calls Try.prog 30 #[.slice ad (rwI R k).length cp, .slice ad' (rwI R k).length cp'] (wr.drewN m) fun e w' => e = .returned (.bool true) ∧ ∃ n, w' = (wr.drewN m).drewN n by
        have h := eqIntS_any ad ad' cp cp' B B' (rwI R k) (rwI R k) (wr.drewN m) (hin.drewN m) (hin'.drewN m) (HZ.out.row hlt)
        rw [decide_eq_true rfl] at h
        exact h)
      clear hin hin'
      generalize (rwI R k).length = n at *
      go_wp2
      go_quiet ((go_at_call 30; with_reducible exact Calls.quiet_of (HE.out _)))
      go_wp2
      go_roundw
      case rel => exact ⟨k + 1, _, by omega, by go_num, by rw [HQ.out, World.drewN_drewN]⟩
      case measure => simp [intOf]; omega
    · obtain rfl : R.length = k := by omega
      go_wp2
      go_ret
      exact ⟨rfl, q, HQ.out⟩
set_option maxHeartbeats 1000000 in
theorem eqLinks_same (a a' : Option Addr) (c c' : Nat) (R : List (List Int)) (N T : Int) (w : World) (hx : RowsL w w.heap.size a R) (hy : RowsL w w.heap.size a' R) (hz : SzOk R) :
    Calls Try.prog 28 #[.agg #[.slice a R.length c, .int .i64 N, .int .i64 T], .agg #[.slice a' R.length c', .int .i64 N, .int .i64 T]] w fun e w' => e = .returned (.bool true) ∧ Below w.heap.size w w' := by
  have hb0 := lbox_new w a R.length c N T 25
  have HB := Lib.hid (hb0.next (alloc_belowX _ (.cells #[.slice a' R.length c', .int .i64 N, .int .i64 T] 25)))
  have hc0 := lbox_new (w.alloc (.cells #[.slice a R.length c, .int .i64 N, .int .i64 T] 25)) a' R.length c' N T 25
  rw [show (w.alloc (.cells #[.slice a R.length c, .int .i64 N, .int .i64 T] 25)).heap.size = w.heap.size + 1 by simp] at hc0
  have HC := Lib.hid hc0
  have HE := Lib.hid (eqIntSS_same a a' c c' w.heap.size w.heap.size R _ (hx.below HB.out.b) (hy.below HB.out.b) hz)
  have z1 : (N != N) = false := by simp
  have z2 : (T != T) = false := by simp
  have p1 := HB.out.g
  have p2 := HB.out.n
  have p3 := HB.out.t
  have q1 := HC.out.g
  have q2 := HC.out.n
  have q3 := HC.out.t
  clear hx hy hb0 hc0
  go_enter Try.func28, Try.ntmps28
  go_wp2_with fail
  generalize (w.alloc (.cells #[.slice a R.length c, .int .i64 N, .int .i64 T] 25)).alloc (.cells #[.slice a' R.length c', .int .i64 N, .int .i64 T] 25) = W at *
  refine HE.out.mono ?_
  rintro e w1 ⟨rfl, m, rfl⟩
  go_wp2
  go_ret
  exact ⟨rfl, below_drewN HB.out.b m⟩
theorem KeptOut.mark {B C b : Nat} {w W W' : World} (h : KeptOut B C w W) (hg : W.grownBy W' (some b)) (h1 : B ≤ b) (h2 : b < C) : KeptOut B C w W' :=
  ⟨hg.os.trans h.os, hg.tape.trans h.tape, hg.output.trans h.output, Nat.le_trans h.size hg.size, fun j hj ho => (hg.block j (Nat.lt_of_lt_of_le hj h.size) (fun e => by injection e; omega)).trans (h.block j hj ho)⟩
theorem KeptOut.up {B C : Nat} {w W W' : World} (h : KeptOut B C w W) (hb : Below W.heap.size W W') : KeptOut B C w W' :=
  ⟨hb.os.trans h.os, hb.tape.trans h.tape, hb.output.trans h.output, Nat.le_trans h.size hb.size, fun j hj ho => (hb.block j (Nat.lt_of_lt_of_le hj h.size)).trans (h.block j hj ho)⟩
theorem KeptOut.after {B C : Nat} {w W W' : World} (h : KeptOut B C W W') (hb : KeptOut B C w W) : KeptOut B C w W' :=
  ⟨h.os.trans hb.os, h.tape.trans hb.tape, h.output.trans hb.output, Nat.le_trans hb.size h.size, fun j hj ho => (h.block j (Nat.lt_of_lt_of_le hj hb.size) ho).trans (hb.block j hj ho)⟩
set_option maxHeartbeats 1000000 in
theorem markIntSS_any (b0 c C : Nat) (R : List (List Int)) (blk : Nat → Nat) (w : World) (h : CpR w b0 R R.length blk) (hC : ∀ i, i < R.length → blk i < C) (hz : SzOk R) :
    Calls Try.prog 51 #[.slice (some ⟨b0, 0, none⟩) R.length c, .int .i64 1] w fun e w' => ∃ K : Nat, e = .returned (.int .i64 (K : Int)) ∧ (1 ≤ K ∧ K ≤ 1048577) ∧ KeptOut b0 C w w' := by
  have hl : R.length ≤ 1048576 := by unfold SzOk at hz; omega
  have HC := Lib.hid h
  have HK := Lib.hid hC
  have HZ := Lib.hid hz
  clear h hC hz
  go_enter Try.func51, Try.ntmps51
  go_wp2
  go_loopw [1, 5] (fun s i wr => ∃ k : Nat, k ≤ R.length ∧ i = .int .i64 k ∧ s = .int .i64 ((1 + tot R k : Nat) : Int) ∧ KeptOut b0 C w wr ∧ (∀ j, k ≤ j → j < R.length → wr.heap[blk j]? = w.heap[blk j]?) ∧ wr.heap[b0]? = w.heap[b0]?) (fun _ i _ => R.length - (intOf i).toNat)
  case atStart => exact ⟨0, Nat.zero_le _, rfl, rfl, KeptOut.refl _ _ _, fun _ _ _ => rfl, rfl⟩
  case round =>
    obtain ⟨k, hk, rfl, rfl, hko, hrest, hb0⟩ := hrel
    have HKo := Lib.hid hko
    have HRe := Lib.hid hrest
    have H0 := Lib.hid hb0
    clear hko hrest hb0
    have htot : tot R k ≤ tot R R.length := tot_le hk
    have hzz := HZ.out
    unfold SzOk at hzz
    by_cases hlt : k < R.length
    · have hrow := (HC.out.row.of_block H0.out).cell hlt
      rw [if_pos hlt] at hrow
      obtain ⟨hlb, hr0⟩ := HC.out.at_ k hlt
      have hm := markIntS_row (blk k) (rwI R k).length (rwI R k).length (rwI R k).length (1 + tot R k) _ wr (hr0.of_block (HRe.out k (Nat.le_refl _) hlt)) (Nat.le_refl _) (HZ.out.row hlt) (by omega)
      have HM := Lib.hid hm
      have HT := Lib.hid (show 1 + tot R k + (rwI R k).length = 1 + tot R (k + 1) by show _ = 1 + (tot R k + (rwI R k).length); omega)
      have Hlb := Lib.hid hlb
      have htot2 : tot R (k + 1) ≤ tot R R.length := tot_le hlt
      clear hm hr0 hlb
      go_wp2_with fail
      refine HM.out.mono ?_
      rintro e w1 ⟨rfl, _, hg⟩
      rw [HT.out]
      have K2 := Lib.hid (HKo.out.mark hg (Nat.le_of_lt Hlb.out) (HK.out k hlt))
      have R2 : Hid (∀ j, k + 1 ≤ j → j < R.length → w1.heap[blk j]? = w.heap[blk j]?) := fun j hj hjl => by
        have hne := HC.out.inc k j hj hjl
        have h1 := HRe.out j (by omega) hjl
        have h2 := (HC.out.at_ j hjl).2.lt
        have h3 := HKo.out.size
        exact (hg.block _ (by omega) (fun e => by injection e; omega)).trans h1
      have Z2 : Hid (w1.heap[b0]? = w.heap[b0]?) := by
        have h2 := HC.out.row.lt
        have h3 := HKo.out.size
        have h4 := Hlb.out
        exact (hg.block _ (by omega) (fun e => by injection e; omega)).trans H0.out
      clear hg
      go_wp2
      go_roundw
      case rel => exact ⟨k + 1, by omega, by go_num, rfl, K2.out, R2.out, Z2.out⟩
      case measure => simp [intOf]; omega
    · obtain rfl : R.length = k := by omega
      go_wp2
      go_ret
      exact ⟨1 + tot R R.length, rfl, by omega, HKo.out⟩
theorem markLinks_any (b0 c C : Nat) (R : List (List Int)) (N T : Int) (blk : Nat → Nat) (w : World) (h : CpR w b0 R R.length blk) (hC : ∀ i, i < R.length → blk i < C) (hz : SzOk R) :
    Calls Try.prog 31 #[.agg #[.slice (some ⟨b0, 0, none⟩) R.length c, .int .i64 N, .int .i64 T], .int .i64 1] w fun e w' => ∃ K : Nat, e = .returned (.int .i64 (K : Int)) ∧ (1 ≤ K ∧ K ≤ 1048577) ∧ KeptOut b0 C w w' := by
  have HB := Lib.hid (lbox_new w (some ⟨b0, 0, none⟩) R.length c N T 25)
  have HM := Lib.hid (markIntSS_any b0 c C R blk _ (h.next (alloc_belowX w (.cells #[.slice (some ⟨b0, 0, none⟩) R.length c, .int .i64 N, .int .i64 T] 25))) hC hz)
  have HK := Lib.hid (KeptOut.of_below (B := b0) (C := C) (alloc_belowX w (.cells #[.slice (some ⟨b0, 0, none⟩) R.length c, .int .i64 N, .int .i64 T] 25)))
  have hbg := HB.out.g
  clear h hC hz
  go_enter Try.func31, Try.ntmps31
  go_wp2_with fail
  refine HM.out.mono ?_
  rintro e w1 ⟨K, rfl, hK, hk⟩
  go_wp2
  go_ret
  exact ⟨K, rfl, hK, hk.after HK.out⟩
end Go.Proofs.Ytlgcacoggikfcaa
