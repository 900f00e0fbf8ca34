/-
  Rows of numbers in memory: what is read of them, their sizes, copies, comparisons and marks. Conditions: the rows can be read; the copies and marks: at most 2^20 numbers in all.
-/
import Derived.Test.YtnmhiagnmfpipaaMem1
import Derived.Test.YtnmhiagnmfpipaaMarks
import Derived.Laws.Cover1
import Derived.Deep.QuietTactic
import Derived.Lib.SmallJoins
namespace Go.Proofs.Ytnmhiagnmfpipaa
open Go.RowKit

/-- The slice that begins at a holds the rows R, all of it in blocks below B. -/
def RowsL (w : World) (B : Nat) (a : Option Addr) (R : List (List Int)) : Prop :=
  R ≠ [] → ∃ b off : Nat, a = some (⟨b, off, none⟩ : Addr) ∧ b < B ∧ ∀ i, i < R.length → ∃ ad cp, w.cell? ⟨b, off + i, none⟩ = some (.slice ad (rwI R i).length cp) ∧ (rwI R i).length ≤ cp ∧ cp ≤ maxLen ∧ Ints .i64 w B ad (rwI R i)
section
variable {w w' : World} {B B' : Nat} {a : Option Addr} {R : List (List Int)}
theorem RowsL.at_ (h : RowsL w B a R) {i : Nat} (hi : i < R.length) : ∃ (b off : Nat) (ad : Option Addr) (cp : Nat), a = some (⟨b, off, none⟩ : Addr) ∧ w.cell? ⟨b, off + i, none⟩ = some (.slice ad (rwI R i).length cp) ∧ (rwI R i).length ≤ cp ∧ cp ≤ maxLen ∧ Ints .i64 w B ad (rwI R i) := by
  obtain ⟨b, off, e, _, hc⟩ := h (by intro e; subst e; simp at hi)
  obtain ⟨ad, cp, h1, h2⟩ := hc i hi
  exact ⟨b, off, ad, cp, e, h1, h2⟩
theorem RowsL.below (h : RowsL w B a R) (hb : Below B w w') : RowsL w' B a R := fun hn => by
  obtain ⟨b, off, e, h1, hc⟩ := h hn
  refine ⟨b, off, e, h1, fun i hi => ?_⟩
  obtain ⟨ad, cp, h2, h3, h4, h5⟩ := hc i hi
  exact ⟨ad, cp, (hb.cell h1).trans h2, h3, h4, h5.below hb⟩
theorem RowsL.more (h : RowsL w B a R) (hB : B ≤ B') : RowsL w B' a R := fun hn => by
  obtain ⟨b, off, e, h1, hc⟩ := h hn
  refine ⟨b, off, e, Nat.lt_of_lt_of_le h1 hB, fun i hi => ?_⟩
  obtain ⟨ad, cp, h2, h3, h4, h5⟩ := hc i hi
  exact ⟨ad, cp, h2, h3, h4, h5.more hB⟩
theorem RowsL.next (h : RowsL w w.heap.size a R) (hb : Below w.heap.size w w') : RowsL w' w'.heap.size a R := (h.below hb).more hb.size
theorem RowsL.drewN (h : RowsL w B a R) (n : Nat) : RowsL (w.drewN n) B a R := h
end
set_option maxRecDepth 10000 in
theorem isBetween_any (n lo hi : Int) (w : World) : Calls Try.prog 58 #[.int .i64 n, .int .i64 lo, .int .i64 hi] w fun e w' => e = .returned (.bool (decide (lo ≤ n ∧ n ≤ hi))) ∧ w = w' := by
  by_cases h1 : lo ≤ n
  · by_cases h2 : n ≤ hi
    · go_enter Try.func58, Try.ntmps58
      go_wp2
      go_ret
      exact ⟨ret_bool (by simp [h1, h2]), rfl⟩
    · go_enter Try.func58, Try.ntmps58
      go_wp2
      go_ret
      exact ⟨ret_bool (by simp [h2]), rfl⟩
  · go_enter Try.func58, Try.ntmps58
    go_wp2
    go_ret
    exact ⟨ret_bool (by simp only [decide_eq_false (show ¬ lo ≤ n by omega), Bool.false_and]), rfl⟩
set_option maxRecDepth 10000 in
theorem isBetween_is (n lo hi : Int) (b : Bool) (w : World) (h : decide (lo ≤ n ∧ n ≤ hi) = b) : Calls Try.prog 58 #[.int .i64 n, .int .i64 lo, .int .i64 hi] w fun e w' => e = .returned (.bool b) ∧ w = w' := by
  subst h; exact isBetween_any n lo hi w
theorem cell_next {W W' : World} {p : Addr} {v : Value} (hc : W.cell? p = some v) (hb : Below W.heap.size W W') : W'.cell? p = some v := (hb.cell (World.block_lt_of_cell? _ _ hc)).trans hc
/-- How many numbers the first k rows hold. -/
def tot (R : List (List Int)) : Nat → Nat
  | 0 => 0
  | k + 1 => tot R k + (rwI R k).length
theorem tot_le {R : List (List Int)} {i : Nat} : ∀ {k : Nat}, i ≤ k → tot R i ≤ tot R k
  | 0, h => by rw [Nat.le_zero.1 h]; exact Nat.le_refl _
  | k + 1, h => by
    rcases Nat.lt_or_ge i (k + 1) with h1 | h1
    · have := tot_le (R := R) (i := i) (k := k) (by omega)
      show tot R i ≤ tot R k + _
      omega
    · rw [Nat.le_antisymm h h1]; exact Nat.le_refl _
def SzOk (R : List (List Int)) : Prop := R.length + tot R R.length ≤ 1048576
theorem SzOk.row {R : List (List Int)} (h : SzOk R) {i : Nat} (hi : i < R.length) : (rwI R i).length ≤ 1048576 := by
  have h1 := tot_le (R := R) (i := i + 1) (k := R.length) hi
  have e : tot R (i + 1) = tot R i + (rwI R i).length := rfl
  unfold SzOk at h
  omega
set_option maxRecDepth 10000 in
theorem szIntS_is (a : Option Addr) (c n : Nat) (L v : Int) (w : World) (hn : n ≤ maxLen) (hL : 0 ≤ L ∧ L ≤ 1048576) (hv : (if (n : Int) ≤ L then L - n else -1) = v) :
    Calls Try.prog 60 #[.slice a n c, .int .i64 L] w fun e w' => e = .returned (.int .i64 v) ∧ w = w' := by
  have hl2 : n ≤ 9223372036854775807 := hn
  clear hn
  have r1 : wrap64 (L - (n : Int)) = L - (n : Int) := by unfold wrap64; omega
  by_cases h : (n : Int) ≤ L
  · have h' : ¬ (L - (n : Int) < 0) := by omega
    rw [if_pos h] at hv
    subst hv
    clear h
    go_enter Try.func60, Try.ntmps60
    go_wp2
    go_ret
    exact ⟨rfl, rfl⟩
  · have h' : L - (n : Int) < 0 := by omega
    rw [if_neg h] at hv
    subst hv
    clear h
    go_enter Try.func60, Try.ntmps60
    go_wp2
    go_ret
    exact ⟨rfl, rfl⟩
set_option maxRecDepth 10000 in
set_option maxHeartbeats 1000000 in
theorem szIntSS_any (a : Option Addr) (c B : Nat) (R : List (List Int)) (w : World) (hr : RowsL w B a R) (hl : R.length ≤ maxLen) :
    Calls Try.prog 34 #[.slice a R.length c, .int .i64 1048576] w fun e w' => ∃ n : Int, e = .returned (.int .i64 n) ∧ (n < 0 ∨ (0 ≤ n ∧ SzOk R)) ∧ w = w' := by
  have hl2 : R.length ≤ 9223372036854775807 := hl
  have HR := Lib.hid hr
  clear hr hl
  have r1 : wrap64 (1048576 - (R.length : Int)) = 1048576 - (R.length : Int) := by unfold wrap64; omega
  by_cases h : R.length ≤ 1048576
  · have h' : ¬ ((1048576 : Int) - R.length < 0) := by omega
    go_enter Try.func34, Try.ntmps34
    go_wp2
    clear r1 h' hl2
    go_loop [1, 5] (fun s x => ∃ k : Nat, k ≤ R.length ∧ x = .int .i64 k ∧ s = .int .i64 (1048576 - (R.length : Int) - (tot R k : Int)) ∧ R.length + tot R k ≤ 1048576) (fun _ x => R.length - (intOf x).toNat)
    case atStart => exact ⟨0, Nat.zero_le _, rfl, by simp [tot], by simpa [tot] using h⟩
    case round =>
      obtain ⟨k, hk, rfl, rfl, hle⟩ := hrel
      by_cases hlt : k < R.length
      · obtain ⟨b, off, ad, cp, rfl, hrow, hcp, hcm, _⟩ := HR.out.at_ hlt
        have ht : tot R (k + 1) = tot R k + (rwI R k).length := rfl
        obtain ⟨L, hL⟩ : ∃ L : Int, L = 1048576 - (R.length : Int) - (tot R k : Int) := ⟨_, rfl⟩
        obtain ⟨n, hn⟩ : ∃ n, n = (rwI R k).length := ⟨_, rfl⟩
        rw [← hL]
        rw [← hn] at ht hrow hcp
        by_cases h1 : (n : Int) ≤ L
        · have HS := Lib.hid (szIntS_is ad cp n L (L - n) w (by omega) (by omega) (if_pos h1))
          have h2 : ¬ (L - (n : Int) < 0) := by omega
          have HE : Hid (L - (n : Int) = 1048576 - (R.length : Int) - (tot R (k + 1) : Int) ∧ R.length + tot R (k + 1) ≤ 1048576) := by
            show _ ∧ _
            omega
          clear hL hn h1 ht hle
          go_wp2_with (go_at_call 60; ((with_reducible refine HS.out.mono ?_); rintro e w1 ⟨rfl, rfl⟩))
          go_round
          case rel => exact ⟨k + 1, by omega, by go_num, by rw [HE.out.1], HE.out.2⟩
          case measure => simp [intOf]; omega
        · have HS := Lib.hid (szIntS_is ad cp n L (-1) w (by omega) (by omega) (if_neg h1))
          clear hL hn h1 ht hle
          go_wp2_with (go_at_call 60; ((with_reducible refine HS.out.mono ?_); rintro e w1 ⟨rfl, rfl⟩))
          go_ret
          exact ⟨-1, rfl, .inl (by omega), rfl⟩
      · obtain rfl : R.length = k := by omega
        go_wp2
        go_ret
        exact ⟨_, rfl, .inr ⟨by omega, hle⟩, rfl⟩
  · have h' : (1048576 : Int) - R.length < 0 := by omega
    go_enter Try.func34, Try.ntmps34
    go_wp2
    go_ret
    exact ⟨-1, rfl, .inl (by omega), rfl⟩
/-- A copy of rows: k rows are copied, each into a block of its own. -/
structure CpR (W : World) (b0 : Nat) (R : List (List Int)) (k : Nat) (blk : Nat → Nat) : Prop where
  row : W.rowIs b0 27 R.length (fun i => if i < k then .slice (some ⟨blk i, 0, none⟩) (rwI R i).length (rwI R i).length else .slice none 0 0)
  at_ : ∀ i, i < k → b0 < blk i ∧ W.rowIs (blk i) 3 (rwI R i).length (fun j => .int .i64 (el (rwI R i) j))
  inc : ∀ i j, i < j → j < k → blk i < blk j
theorem CpR.next {W W' : World} {b0 k : Nat} {R : List (List Int)} {blk : Nat → Nat} (h : CpR W b0 R k blk) (hb : Below W.heap.size W W') : CpR W' b0 R k blk :=
  ⟨h.row.of_block (hb.block _ h.row.lt), fun i hi => ⟨(h.at_ i hi).1, (h.at_ i hi).2.of_block (hb.block _ (h.at_ i hi).2.lt)⟩, h.inc⟩
set_option maxRecDepth 10000 in
theorem CpR.step {W : World} {b0 k : Nat} {R : List (List Int)} {blk : Nat → Nat} {b : Nat} (h : CpR W b0 R k blk) (hr : W.rowIs b 3 (rwI R k).length (fun j => .int .i64 (el (rwI R k) j))) (h0 : b0 < b) (hi : ∀ i, i < k → blk i < b) :
    CpR (W.setCell ⟨b0, k, none⟩ (.slice (some ⟨b, 0, none⟩) (rwI R k).length (rwI R k).length)) b0 R (k + 1) (fun i => if i = k then b else blk i) := by
  have hg := Lib.grownBy_setCell W b0 k (.slice (some ⟨b, 0, none⟩) (rwI R k).length (rwI R k).length)
  refine ⟨(h.row.set k _).congr fun j hj => ?_, fun i him => ?_, fun i j hij hj => ?_⟩
  · by_cases e : j = k
    · subst e; simp
    · by_cases e2 : j < k
      · simp [e, e2, Nat.lt_succ_of_lt e2]
      · simp [e, e2, show ¬ j < k + 1 by omega]
  · by_cases e : i = k
    · subst e
      simp only [if_true]
      exact ⟨h0, hr.of_block (hg.block _ hr.lt (fun e => by injection e; omega))⟩
    · simp only [e, if_false]
      have h2 := h.at_ i (by omega)
      exact ⟨h2.1, h2.2.of_block (hg.block _ h2.2.lt (fun e => by injection e; omega))⟩
  · by_cases e : j = k
    · subst e
      simp only [if_true, show i ≠ j by omega, if_false]
      exact hi i hij
    · simp only [e, if_false, show i ≠ k by omega]
      exact h.inc i j hij (by omega)
theorem CpR.rows {W : World} {b0 : Nat} {R : List (List Int)} {blk : Nat → Nat} (h : CpR W b0 R R.length blk) (hl : ∀ i, i < R.length → (rwI R i).length ≤ 1048576) : RowsL W W.heap.size (some ⟨b0, 0, none⟩) R := fun _ => by
  refine ⟨b0, 0, rfl, h.row.lt, fun i hi => ?_⟩
  have h1 := h.row.cell hi
  rw [if_pos hi] at h1
  rw [Nat.zero_add]
  exact ⟨_, _, h1, Nat.le_refl _, Nat.le_trans (hl i hi) (by unfold maxLen; omega), ints_of_row (h.at_ i hi).2 rfl (h.at_ i hi).2.lt⟩
set_option maxRecDepth 10000 in
theorem Try.infoRow : (Try.prog.info? 27).map (fun i => (i.zero, i.size, i.bytes)) = some (some (.slice none 0 0), 1, 24) := by kernel_rfl
set_option maxRecDepth 10000 in
theorem makeRows (n : Nat) (hn : n ≤ 1048576) (w : World) : (Instr.makeSlice 23 (.int .i64 (n : Int)) (.int .i64 (n : Int))).run Try.prog w = .ok (.slice (some ⟨w.heap.size, 0, none⟩) n n) (w.alloc (.cells (madeCells #[.slice none 0 0] n) 27)) :=
  run_make_row' (P := Try.prog) 23 27 (.slice none 0 0) 24 Try.underlying23 Try.infoRow rfl .i64 .i64 n (by omega) (by omega) w
set_option maxRecDepth 10000 in
theorem cpR_made (w : World) (R : List (List Int)) : CpR (w.alloc (.cells (madeCells #[.slice none 0 0] R.length) 27)) w.heap.size R 0 (fun _ => 0) :=
  ⟨(World.rowIs_made w (.slice none 0 0) R.length 27).congr fun j _ => by simp, fun i hi => absurd hi (by omega), fun i j _ hj => absurd hj (by omega)⟩
set_option maxRecDepth 10000 in
set_option maxHeartbeats 1000000 in
theorem toIntSS_any (a : Option Addr) (c : Nat) (R : List (List Int)) (w : World) (hr : RowsL w w.heap.size a R) (hz : SzOk R) :
    Calls Try.prog 35 #[.slice a R.length c] w fun e w' => e = .returned (.slice (some ⟨w.heap.size, 0, none⟩) R.length R.length) ∧ (∃ blk, CpR w' w.heap.size R R.length blk) ∧ Below w.heap.size w w' := by
  have hl : R.length ≤ 1048576 := by unfold SzOk at hz; omega
  have hmk := makeRows R.length hl
  have HR := Lib.hid hr
  have HZ := Lib.hid hz
  clear hr hz
  go_enter Try.func35, Try.ntmps35
  go_wp2
  clear hmk
  go_loopw [4] (fun i wr => ∃ k : Nat, k ≤ R.length ∧ i = .int .i64 k ∧ (∃ blk, CpR wr w.heap.size R k blk ∧ ∀ i, i < k → blk i < wr.heap.size) ∧ Below w.heap.size w wr) (fun i _ => R.length - (intOf i).toNat)
  case atStart => exact ⟨0, Nat.zero_le _, rfl, ⟨_, cpR_made w R, fun i hi => absurd hi (by omega)⟩, alloc_belowX w _⟩
  case round =>
    obtain ⟨k, hk, rfl, ⟨blk, hcp, hblk⟩, hbel⟩ := hrel
    have HC := Lib.hid hcp
    have HB := Lib.hid hbel
    have HK := Lib.hid hblk
    clear hcp hbel hblk
    by_cases hlt : k < R.length
    · obtain ⟨b, off, ad, cp, rfl, hrow, _, _, hin⟩ := (HR.out.below HB.out).at_ hlt
      have HT := Lib.hid (toIntS_any ad cp w.heap.size (rwI R k) wr hin HB.out.size (HZ.out.row hlt))
      have hszr : w.heap.size < wr.heap.size := HC.out.row.lt
      clear hin
      go_wp2_with fail
      refine HT.out.mono ?_
      rintro e w1 ⟨rfl, hr1, hb1⟩
      have C1 := Lib.hid (HC.out.next hb1)
      have c0 := C1.out.row.cell hlt
      rw [if_neg (Nat.lt_irrefl k)] at c0
      have f0 := C1.out.row.frozen k
      have C2 := Lib.hid (C1.out.step hr1 hszr HK.out)
      have hs1 := hr1.lt
      have K2 : Hid (∀ i, i < k + 1 → (fun i => if i = k then wr.heap.size else blk i) i < (w1.setCell ⟨w.heap.size, k, none⟩ (.slice (some ⟨wr.heap.size, 0, none⟩) (rwI R k).length (rwI R k).length)).heap.size) := fun i hi => by
        have hsz := (Lib.grownBy_setCell w1 w.heap.size k (.slice (some ⟨wr.heap.size, 0, none⟩) (rwI R k).length (rwI R k).length)).size
        by_cases e : i = k
        · simp only [e, if_true]; omega
        · have := HK.out i (by omega)
          simp only [e, if_false]; omega
      have B2 := Lib.hid ((Below.next HB.out (Nat.le_refl _) hb1).setCell (p := ⟨w.heap.size, k, none⟩) (Nat.le_refl _) (.slice (some ⟨wr.heap.size, 0, none⟩) (rwI R k).length (rwI R k).length))
      clear hr1 hb1
      go_wp2
      go_roundw
      case rel => exact ⟨k + 1, by omega, by go_num, ⟨_, C2.out, K2.out⟩, B2.out⟩
      case measure => simp [intOf]; omega
    · obtain rfl : R.length = k := by omega
      go_wp2
      go_ret
      exact ⟨rfl, ⟨blk, HC.out⟩, HB.out⟩
theorem CpR.grown {W W' : World} {b0 b k : Nat} {R : List (List Int)} {blk : Nat → Nat} (h : CpR W b0 R k blk) (hg : W.grownBy W' (some b)) (hb : b < b0) : CpR W' b0 R k blk :=
  ⟨h.row.of_block (hg.block _ h.row.lt (fun e => by injection e; omega)), fun i hi => ⟨(h.at_ i hi).1, (h.at_ i hi).2.of_block (hg.block _ (h.at_ i hi).2.lt (fun e => by injection e; have := (h.at_ i hi).1; omega))⟩, h.inc⟩
set_option maxRecDepth 10000 in
set_option maxHeartbeats 1000000 in
theorem eqIntSS_same (a a' : Option Addr) (c c' B B' : Nat) (R : List (List Int)) (w : World) (hx : RowsL w B a R) (hy : RowsL w B' a' R) (hz : SzOk R) :
    Calls Try.prog 36 #[.slice a R.length c, .slice a' R.length c'] w fun e w' => e = .returned (.bool true) ∧ ∃ n, w' = w.drewN n := by
  have hl : R.length ≤ 1048576 := by unfold SzOk at hz; omega
  have HX := Lib.hid hx
  have HY := Lib.hid hy
  have HZ := Lib.hid hz
  have z : ((R.length : Int) != (R.length : Int)) = false := by simp
  clear hx hy hz
  go_enter Try.func36, Try.ntmps36
  go_wp2
  clear z
  go_loopw [5] (fun i wr => ∃ k q : Nat, k ≤ R.length ∧ i = .int .i64 k ∧ wr = w.drewN q) (fun i _ => R.length - (intOf i).toNat)
  case atStart => exact ⟨0, 0, Nat.zero_le _, rfl, rfl⟩
  case round =>
    obtain ⟨k, q, hk, rfl, hq⟩ := hrel
    have HX := Lib.hid (show RowsL wr B a R by rw [hq]; exact HX.out.drewN q)
    have HY := Lib.hid (show RowsL wr B' a' R by rw [hq]; exact HY.out.drewN q)
    have HQ := Lib.hid hq
    clear hq
    by_cases hlt : k < R.length
    · obtain ⟨b, off, ad, cp, rfl, hrow, _, _, hin⟩ := HX.out.at_ hlt
      obtain ⟨b', off', ad', cp', rfl, hrow', _, _, hin'⟩ := HY.out.at_ hlt
      have HE := Lib.hid (fun m => show Calls Try.prog 37 #[.slice ad (rwI R k).length cp, .slice ad' (rwI R k).length cp'] (wr.drewN m) fun e w' => e = .returned (.bool true) ∧ ∃ n, w' = (wr.drewN m).drewN n by
        have h := eqIntS_any ad ad' cp cp' B B' (rwI R k) (rwI R k) (wr.drewN m) (hin.drewN m) (hin'.drewN m) (HZ.out.row hlt)
        rw [decide_eq_true rfl] at h
        exact h)
      clear hin hin'
      generalize (rwI R k).length = n at *
      go_wp2
      go_quiet ((go_at_call 37; with_reducible exact Calls.quiet_of (HE.out _)))
      go_wp2
      go_roundw
      case rel => exact ⟨k + 1, _, by omega, by go_num, by rw [HQ.out, World.drewN_drewN]⟩
      case measure => simp [intOf]; omega
    · obtain rfl : R.length = k := by omega
      go_wp2
      go_ret
      exact ⟨rfl, q, HQ.out⟩
theorem KeptOut.mark {B C b : Nat} {w W W' : World} (h : KeptOut B C w W) (hg : W.grownBy W' (some b)) (h1 : B ≤ b) (h2 : b < C) : KeptOut B C w W' :=
  ⟨hg.os.trans h.os, hg.tape.trans h.tape, hg.output.trans h.output, Nat.le_trans h.size hg.size, fun j hj ho => (hg.block j (Nat.lt_of_lt_of_le hj h.size) (fun e => by injection e; omega)).trans (h.block j hj ho)⟩
theorem KeptOut.up {B C : Nat} {w W W' : World} (h : KeptOut B C w W) (hb : Below W.heap.size W W') : KeptOut B C w W' :=
  ⟨hb.os.trans h.os, hb.tape.trans h.tape, hb.output.trans h.output, Nat.le_trans h.size hb.size, fun j hj ho => (hb.block j (Nat.lt_of_lt_of_le hj h.size)).trans (h.block j hj ho)⟩
theorem KeptOut.after {B C : Nat} {w W W' : World} (h : KeptOut B C W W') (hb : KeptOut B C w W) : KeptOut B C w W' :=
  ⟨h.os.trans hb.os, h.tape.trans hb.tape, h.output.trans hb.output, Nat.le_trans hb.size h.size, fun j hj ho => (h.block j (Nat.lt_of_lt_of_le hj hb.size) ho).trans (hb.block j hj ho)⟩
set_option maxRecDepth 10000 in
set_option maxHeartbeats 1000000 in
theorem markIntSS_any (b0 c C : Nat) (R : List (List Int)) (blk : Nat → Nat) (w : World) (h : CpR w b0 R R.length blk) (hC : ∀ i, i < R.length → blk i < C) (hz : SzOk R) :
    Calls Try.prog 38 #[.slice (some ⟨b0, 0, none⟩) R.length c, .int .i64 1] w fun e w' => ∃ K : Nat, e = .returned (.int .i64 (K : Int)) ∧ (1 ≤ K ∧ K ≤ 1048577) ∧ KeptOut b0 C w w' := by
  have hl : R.length ≤ 1048576 := by unfold SzOk at hz; omega
  have HC := Lib.hid h
  have HK := Lib.hid hC
  have HZ := Lib.hid hz
  clear h hC hz
  go_enter Try.func38, Try.ntmps38
  go_wp2
  go_loopw [1, 5] (fun s i wr => ∃ k : Nat, k ≤ R.length ∧ i = .int .i64 k ∧ s = .int .i64 ((1 + tot R k : Nat) : Int) ∧ KeptOut b0 C w wr ∧ (∀ j, k ≤ j → j < R.length → wr.heap[blk j]? = w.heap[blk j]?) ∧ wr.heap[b0]? = w.heap[b0]?) (fun _ i _ => R.length - (intOf i).toNat)
  case atStart => exact ⟨0, Nat.zero_le _, rfl, rfl, KeptOut.refl _ _ _, fun _ _ _ => rfl, rfl⟩
  case round =>
    obtain ⟨k, hk, rfl, rfl, hko, hrest, hb0⟩ := hrel
    have HKo := Lib.hid hko
    have HRe := Lib.hid hrest
    have H0 := Lib.hid hb0
    clear hko hrest hb0
    have htot : tot R k ≤ tot R R.length := tot_le hk
    have hzz := HZ.out
    unfold SzOk at hzz
    by_cases hlt : k < R.length
    · have hrow := (HC.out.row.of_block H0.out).cell hlt
      rw [if_pos hlt] at hrow
      obtain ⟨hlb, hr0⟩ := HC.out.at_ k hlt
      have hm := markIntS_row (blk k) (rwI R k).length (rwI R k).length (rwI R k).length (1 + tot R k) _ wr (hr0.of_block (HRe.out k (Nat.le_refl _) hlt)) (Nat.le_refl _) (HZ.out.row hlt) (by omega)
      have HM := Lib.hid hm
      have HT := Lib.hid (show 1 + tot R k + (rwI R k).length = 1 + tot R (k + 1) by show _ = 1 + (tot R k + (rwI R k).length); omega)
      have Hlb := Lib.hid hlb
      have htot2 : tot R (k + 1) ≤ tot R R.length := tot_le hlt
      clear hm hr0 hlb
      go_wp2_with fail
      refine HM.out.mono ?_
      rintro e w1 ⟨rfl, _, hg⟩
      rw [HT.out]
      have K2 := Lib.hid (HKo.out.mark hg (Nat.le_of_lt Hlb.out) (HK.out k hlt))
      have R2 : Hid (∀ j, k + 1 ≤ j → j < R.length → w1.heap[blk j]? = w.heap[blk j]?) := fun j hj hjl => by
        have hne := HC.out.inc k j hj hjl
        have h1 := HRe.out j (by omega) hjl
        have h2 := (HC.out.at_ j hjl).2.lt
        have h3 := HKo.out.size
        exact (hg.block _ (by omega) (fun e => by injection e; omega)).trans h1
      have Z2 : Hid (w1.heap[b0]? = w.heap[b0]?) := by
        have h2 := HC.out.row.lt
        have h3 := HKo.out.size
        have h4 := Hlb.out
        exact (hg.block _ (by omega) (fun e => by injection e; omega)).trans H0.out
      clear hg
      go_wp2
      go_roundw
      case rel => exact ⟨k + 1, by omega, by go_num, rfl, K2.out, R2.out, Z2.out⟩
      case measure => simp [intOf]; omega
    · obtain rfl : R.length = k := by omega
      go_wp2
      go_ret
      exact ⟨1 + tot R R.length, rfl, by omega, HKo.out⟩
end Go.Proofs.Ytnmhiagnmfpipaa
