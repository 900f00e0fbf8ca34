/-
  Routes, and tables without a link, as the code answers; tables whose rows lie in blocks of their own. Condition: rows that can be read.
-/
import Derived.Test.YtnmhiagnmfpipaaRteA
import Derived.Test.YtnmhiagnmfpipaaAppendA
import Derived.Lib.SliceRun
namespace Go.Proofs.Ytnmhiagnmfpipaa
open Go.RowKit

set_option maxRecDepth 10000 in
theorem grow_lit (w : World) (x : Int) : Grow .i64 3 (w.alloc (.cells #[.int .i64 x] 3)) w.heap.size (some ⟨w.heap.size, 0, none⟩) 1 1 [x] :=
  ⟨rfl, .inr ⟨w.heap.size, 1, #[.int .i64 x], rfl, Nat.le_refl _, heap_alloc_last _ _, Nat.le_refl _, by unfold maxLen; omega, rfl, rfl⟩⟩
/-- Stations as numbers. -/
def rtI (L : List Nat) : List Int := L.map fun (k : Nat) => (k : Int)
theorem rtI_len (L : List Nat) : (rtI L).length = L.length := by simp [rtI]
theorem rtI_el {L : List Nat} {k : Nat} (h : k < L.length) : el (rtI L) k = (nl L k : Int) := by simp [rtI, el, nl, h]
theorem rtI_take {L : List Nat} {k : Nat} (h : k < L.length) : rtI (L.take (k + 1)) = rtI (L.take k) ++ [(nl L k : Int)] := by
  unfold rtI
  rw [List.take_succ_eq_append_getElem h, List.map_append, List.map_singleton]
  simp [nl, h]
/-- The route from a station from which there is a path. -/
def rtL (R : List (List Int)) (i to : Nat) : List Nat := rtF (tg R) (el (lcL R to)) R.length (el (lcL R to) i).toNat i
theorem rtL_ok {R : List (List Int)} {i to : Nat} (hto : to < R.length) (hi : i < R.length) (h0 : 0 ≤ el (lcL R to) i) : RtOk (tg R) (el (lcL R to)) R.length to i (rtL R i to) := rt_ok (lcL_is R to) hto hi h0 (Nat.le_refl _)
/-- What RouteTo answers. -/
def RtYes (R : List (List Int)) (f t : Int) : Prop := EndsOk R f t ∧ 0 ≤ el (lcL R t.toNat) f.toNat
instance (R : List (List Int)) (f t : Int) : Decidable (RtYes R f t) := inferInstanceAs (Decidable (_ ∧ _))
def rtOr (R : List (List Int)) (f t : Int) : List Int := if RtYes R f t then rtI (rtL R f.toNat t.toNat) else []
theorem rtOr_no {R : List (List Int)} {f t : Int} (h : ¬ RtYes R f t) : rtOr R f t = [] := by unfold rtOr; rw [if_neg h]
theorem rtOr_yes {R : List (List Int)} {i to : Nat} (h : RtYes R (i : Int) (to : Int)) : rtOr R (i : Int) (to : Int) = rtI (rtL R i to) := by
  unfold rtOr; rw [if_pos h]; rfl
/-- How long the slice is that a variable holds. -/
def slN : Value → Nat
  | .slice _ n _ => n
  | _ => 0
set_option maxRecDepth 10000 in
set_option maxHeartbeats 4000000 in
theorem routeTo_any (a : Option Addr) (c : Nat) (R : List (List Int)) (f t : Int) (w : World) (hr : RowsL w w.heap.size a R) :
    Calls Try.prog 27 #[.slice a R.length c, .int .i64 f, .int .i64 t] w (ListPostC (rtOr R f t) w) := by
  by_cases h : EndsOk R f t
  · obtain ⟨i, to, rfl, rfl, hi, hto, hok⟩ := endsOk_cases h
    have H1 := Lib.hid (linkEnds_is a c w.heap.size R (i : Int) (to : Int) true w hr (decide_eq_true h))
    have H3 := Lib.hid (leastPaths_any a c R to w hr hok hto)
    have H4 := Lib.hid (fun (W : World) B B' g0 cg0 k (hk : k < R.length) (hx : Ints .i64 W B' g0 (lcL R to)) (hr : RowsL W B a R) => nextOf_any a g0 c cg0 B B' R (lcL R to) k W hr hx hok (lcL_len _ _) hk (lcL_ok hok))
    have HR := Lib.hid hr
    have HLL := Lib.hid (lcL_len R to)
    have hn10 := hok.1
    have hiI : (i : Int) < (R.length : Int) := by omega
    have HI := Lib.hid hi
    have hcase := (lcL_is R to).none_ i hi
    have HTO := Lib.hid hto
    by_cases h0 : 0 ≤ el (lcL R to) i
    · have hne : (el (lcL R to) i == -1) = false := by simp; omega
      rw [rtOr_yes ⟨h, h0⟩]
      have HOK := Lib.hid (rtL_ok hto hi h0)
      obtain ⟨L, hL⟩ : ∃ L, L = rtL R i to := ⟨_, rfl⟩
      rw [← hL] at HOK ⊢
      have hlen := HOK.out.len
      obtain ⟨xs, hxs⟩ : ∃ xs, xs = lcL R to := ⟨_, rfl⟩
      rw [← hxs] at H3 H4 HLL hne HOK
      obtain ⟨n, hn⟩ : ∃ n, n = xs.length := ⟨_, rfl⟩
      have HN := Lib.hid hn
      have hnR : n = R.length := hn.trans HLL.out
      obtain ⟨z, hz⟩ : ∃ z, z = el xs i := ⟨_, rfl⟩
      have HZ := Lib.hid hz
      rw [← hz] at hne
      rw [← hnR] at hn10 hiI hlen
      have HNR := Lib.hid hnR
      clear h hto hi hok hr hL hxs h0 hcase hn hz hnR
      go_enter Try.func27, Try.ntmps27
      go_wp2_with (first | (go_at_call 52; ((with_reducible refine H1.out.mono ?_); rintro e w1 ⟨rfl, rfl⟩)) | (go_at_call 49; ((with_reducible refine H3.out.mono ?_); rintro e w2 ⟨g0, cg0, rfl, hl, o2, b2⟩; have G2 := Lib.hid (own_of_list o2).ints; have R2 := Lib.hid (HR.out.below b2); have B2 := Lib.hid b2; obtain ⟨bg, offg, eg, _, hcg⟩ := G2.out.at_ (i := i) (by rw [HLL.out]; exact HI.out); subst eg; rw [← HZ.out] at hcg; rw [← HN.out]; clear hl o2 b2)))
      have G3 := Lib.hid (grow_lit w2 (i : Int))
      have B3 := Lib.hid (alloc_belowX w2 (.cells #[.int .i64 (i : Int)] 3))
      go_loopw [1, 8] (fun x s wr => ∃ k : Nat, k < L.length ∧ x = .int .i64 (nl L k : Int) ∧ (∃ a' cap', s = .slice a' (k + 1) cap' ∧ Grow .i64 3 wr w2.heap.size a' (k + 1) cap' (rtI (L.take (k + 1)))) ∧ Below w2.heap.size w2 wr) (fun _ s _ => L.length - slN s)
      case atStart =>
        have hp := HOK.out.pos
        exact ⟨0, hp, by rw [HOK.out.first], ⟨_, 1, rfl, by rw [rtI_take hp, HOK.out.first]; exact G3.out⟩, B3.out⟩
      case round =>
        obtain ⟨k, hk, rfl, ⟨a', cap', rfl, hg⟩, hb⟩ := hrel
        have HG := Lib.hid hg
        have HB := Lib.hid hb
        clear hg hb
        have hends := HOK.out.ends hk
        have HT := Lib.hid (fun h => HOK.out.next k h)
        by_cases he : k + 1 = L.length
        · have e1 : nl L k = to := hends.2 he
          rw [e1]
          have z : ((to : Int) != (to : Int)) = false := by simp
          go_wp2
          go_ret
          have e2 : L.take (k + 1) = L := by rw [he, List.take_length]
          have hg := HG.out
          rw [e2] at hg
          exact listPostC_grow (hg.base_le B2.out.size) (Below.next B2.out (Nat.le_refl _) HB.out)
        · have hk1 : k + 1 < L.length := by omega
          have hne2 : ((nl L k : Int) != (to : Int)) = true := by
            have : nl L k ≠ to := fun h => he (hends.1 h)
            simp; omega
          have hnx := HT.out hk1
          have hlt := HOK.out.lt k hk
          rw [← HLL.out] at hlt
          have HNX := Lib.hid (fun W hx hr => by have h1 := H4.out W w.heap.size w2.heap.size (some ⟨bg, offg, none⟩) cg0 (nl L k) (by rw [← HLL.out]; exact hlt) hx hr; rw [hnx, ← HN.out, show nxV (some (nl L (k + 1))) = (nl L (k + 1) : Int) from rfl] at h1; exact h1)
          have hk2 : k + 2 ≤ 10 := by omega
          have HK1 := Lib.hid hk1
          have HTK := Lib.hid (rtI_take hk1)
          have HGI := Lib.hid (G2.out.below HB.out)
          have HRI := Lib.hid (R2.out.below (HB.out.mono B2.out.size))
          have HWs := Lib.hid HB.out.size
          clear hends hnx hlt he hk1
          go_wp2_with (first
            | (go_at_call 53; ((with_reducible refine (HNX.out _ HGI.out HRI.out).mono ?_); rintro e w3 ⟨rfl, q3, rfl⟩; have HG3 := Lib.hid ((HG.out.drewN q3).alloc (.cells #[.int .i64 (nl L (k + 1) : Int)] 3)); have HB3 := Lib.hid ((below_drewN HB.out q3).alloc HWs.out (.cells #[.int .i64 (nl L (k + 1) : Int)] 3)); have HC3 := Lib.hid (cell_of_row _ _ 0 _ _ _ (heap_alloc_last (wr.drewN q3) (.cells #[.int .i64 (nl L (k + 1) : Int)] 3))); have HS3 := Lib.hid (Nat.le_trans HWs.out (alloc_belowX (wr.drewN q3) (.cells #[.int .i64 (nl L (k + 1) : Int)] 3)).size)))
            | (at_builtin; refine wpList_append1 (.tmp 31) (.tmp 33) w2.heap.size a' (k + 1) cap' (rtI (L.take (k + 1))) ⟨wr.heap.size, 0, none⟩ (nl L (k + 1) : Int) rfl rfl rfl rfl HG3.out HC3.out (by omega) HS3.out ?_; intro a4 cap4 w4 hg4 hb4; have HG4 := Lib.hid hg4; have HB4 := Lib.hid (HB3.out.trans hb4); clear hg4 hb4))
          go_roundw
          case rel => exact ⟨k + 1, HK1.out, rfl, ⟨a4, cap4, rfl, by rw [HTK.out]; exact HG4.out⟩, HB4.out⟩
          case measure => have := HK1.out; simp [slN]; omega
    · have hne : (el (lcL R to) i == -1) = true := by simp; omega
      rw [rtOr_no fun h1 => h0 h1.2]
      obtain ⟨xs, hxs⟩ : ∃ xs, xs = lcL R to := ⟨_, rfl⟩
      rw [← hxs] at H3 H4 HLL hne
      obtain ⟨n, hn⟩ : ∃ n, n = xs.length := ⟨_, rfl⟩
      have HN := Lib.hid hn
      have hnR : n = R.length := hn.trans HLL.out
      obtain ⟨z, hz⟩ : ∃ z, z = el xs i := ⟨_, rfl⟩
      have HZ := Lib.hid hz
      rw [← hz] at hne
      rw [← hnR] at hn10 hiI
      clear h hto hi hok hr hxs h0 hcase hn hz hnR
      go_enter Try.func27, Try.ntmps27
      go_wp2_with (first | (go_at_call 52; ((with_reducible refine H1.out.mono ?_); rintro e w1 ⟨rfl, rfl⟩)) | (go_at_call 49; ((with_reducible refine H3.out.mono ?_); rintro e w2 ⟨g0, cg0, rfl, hl, o2, b2⟩; have G2 := Lib.hid (own_of_list o2).ints; have B2 := Lib.hid b2; obtain ⟨bg, offg, eg, _, hcg⟩ := G2.out.at_ (i := i) (by rw [HLL.out]; exact HI.out); subst eg; rw [← HZ.out] at hcg; rw [← HN.out]; clear hl o2 b2)))
      go_ret
      exact listPostC_grow (Grow.nil _ _ _ _) B2.out
  · rw [rtOr_no fun h1 => h h1.1]
    have H1 := Lib.hid (linkEnds_is a c w.heap.size R f t false w hr (decide_eq_false h))
    clear h hr
    go_enter Try.func27, Try.ntmps27
    go_wp2_with (go_at_call 52; ((with_reducible refine H1.out.mono ?_); rintro e w1 ⟨rfl, rfl⟩))
    go_ret
    exact listPostC_grow (Grow.nil _ _ _ _) (Below.refl _ _)

/-- Block b0 holds a table of which k rows are laid, each in a block of its own, with room. -/
structure CgR (W : World) (b0 : Nat) (R : List (List Int)) (k : Nat) (blk cp : Nat → Nat) : Prop where
  row : W.rowIs b0 27 R.length (fun i => if i < k then .slice (some ⟨blk i, 0, none⟩) (rwI R i).length (cp i) else .slice none 0 0)
  at_ : ∀ i, i < k → b0 < blk i ∧ ((rwI R i).length ≤ cp i ∧ cp i ≤ maxLen) ∧ ∃ f, W.rowIs (blk i) 3 (cp i) f ∧ ∀ j, j < (rwI R i).length → f j = .int .i64 (el (rwI R i) j)
  inc : ∀ i j, i < j → j < k → blk i < blk j
section
variable {W W' : World} {b0 k : Nat} {R : List (List Int)} {blk cp : Nat → Nat}
theorem CgR.lt (h : CgR W b0 R k blk cp) {i : Nat} (hi : i < k) : blk i < W.heap.size := by
  obtain ⟨_, _, f, hf, _⟩ := h.at_ i hi
  exact hf.lt
theorem CgR.next (h : CgR W b0 R k blk cp) (hb : Below W.heap.size W W') : CgR W' b0 R k blk cp :=
  ⟨h.row.of_block (hb.block _ h.row.lt), fun i hi => by
    obtain ⟨h1, h2, f, hf, hv⟩ := h.at_ i hi
    exact ⟨h1, h2, f, hf.of_block (hb.block _ hf.lt), hv⟩, h.inc⟩
set_option maxRecDepth 10000 in
theorem CgR.step {b c : Nat} {f : Nat → Value} (h : CgR W b0 R k blk cp) (hc : (rwI R k).length ≤ c ∧ c ≤ maxLen) (hr : W.rowIs b 3 c f) (hf : ∀ j, j < (rwI R k).length → f j = .int .i64 (el (rwI R k) j)) (h0 : b0 < b) (hi : ∀ i, i < k → blk i < b) :
    CgR (W.setCell ⟨b0, k, none⟩ (.slice (some ⟨b, 0, none⟩) (rwI R k).length c)) b0 R (k + 1) (fun i => if i = k then b else blk i) (fun i => if i = k then c else cp i) := by
  have hg := Lib.grownBy_setCell W b0 k (.slice (some ⟨b, 0, none⟩) (rwI R k).length c)
  refine ⟨(h.row.set k _).congr fun j hj => ?_, fun i him => ?_, fun i j hij hj => ?_⟩
  · by_cases e : j = k
    · subst e; simp
    · by_cases e2 : j < k
      · simp [e, e2, Nat.lt_succ_of_lt e2]
      · simp [e, e2, show ¬ j < k + 1 by omega]
  · by_cases e : i = k
    · subst e
      simp only [if_true]
      exact ⟨h0, hc, f, hr.of_block (hg.block _ hr.lt (fun e => by injection e; omega)), hf⟩
    · simp only [e, if_false]
      obtain ⟨h2, h3, f', hf', hv⟩ := h.at_ i (by omega)
      exact ⟨h2, h3, f', hf'.of_block (hg.block _ hf'.lt (fun e => by injection e; omega)), hv⟩
  · by_cases e : j = k
    · subst e
      simp only [if_true, show i ≠ j by omega, if_false]
      exact hi i hij
    · simp only [e, if_false, show i ≠ k by omega]
      exact h.inc i j hij (by omega)
theorem CgR.rows (h : CgR W b0 R R.length blk cp) : RowsL W W.heap.size (some ⟨b0, 0, none⟩) R := fun _ => by
  refine ⟨b0, 0, rfl, h.row.lt, fun i hi => ?_⟩
  have h1 := h.row.cell hi
  rw [if_pos hi] at h1
  rw [Nat.zero_add]
  obtain ⟨_, h2, f, hf, hv⟩ := h.at_ i hi
  exact ⟨_, _, h1, h2.1, h2.2, fun _ => ⟨blk i, 0, rfl, hf.lt, fun j hj => by rw [Nat.zero_add, hf.cell (by omega), hv j hj]⟩⟩
set_option maxRecDepth 10000 in
theorem cgR_made (w : World) (R : List (List Int)) : CgR (w.alloc (.cells (madeCells #[.slice none 0 0] R.length) 27)) w.heap.size R 0 (fun _ => 0) (fun _ => 0) :=
  ⟨(World.rowIs_made w (.slice none 0 0) R.length 27).congr fun j _ => by simp, fun i hi => absurd hi (by omega), fun i j _ hj => absurd hj (by omega)⟩
theorem CpR.cgR (h : CpR W b0 R R.length blk) (hl : ∀ i, i < R.length → (rwI R i).length ≤ maxLen) : CgR W b0 R R.length blk (fun i => (rwI R i).length) :=
  ⟨h.row, fun i hi => ⟨(h.at_ i hi).1, ⟨Nat.le_refl _, hl i hi⟩, _, (h.at_ i hi).2, fun _ _ => rfl⟩, h.inc⟩
theorem rwI_set (R : List (List Int)) {i j : Nat} (g : List Int) (hj : j < R.length) : rwI (R.set i g) j = if j = i then g else rwI R j := by
  unfold rwI
  by_cases e : j = i
  · subst e; simp [hj]
  · have e' : ¬ i = j := fun h => e h.symm
    simp [e, List.getElem?_set_ne e']
theorem el_set (g : List Int) {i j : Nat} (v : Int) (hj : j < g.length) : el (g.set i v) j = if j = i then v else el g j := by
  unfold el
  by_cases e : j = i
  · subst e; simp [hj]
  · have e' : ¬ i = j := fun h => e h.symm
    simp [e, List.getElem?_set_ne e']
/-- One number of a table written. -/
theorem CgR.set {i j : Nat} (v : Int) (h : CgR W b0 R R.length blk cp) (hi : i < R.length) : CgR (W.setCell ⟨blk i, j, none⟩ (.int .i64 v)) b0 (R.set i ((rwI R i).set j v)) (R.set i ((rwI R i).set j v)).length blk cp := by
  have hg := Lib.grownBy_setCell W (blk i) j (.int .i64 v)
  have hbi := (h.at_ i hi).1
  have hlen : ∀ x, x < R.length → (rwI (R.set i ((rwI R i).set j v)) x).length = (rwI R x).length := fun x hx => by
    rw [rwI_set R _ hx]
    by_cases e : x = i
    · subst e; simp
    · simp [e]
  refine ⟨?_, fun x hx => ?_, fun x y hxy hy => h.inc x y hxy (by rw [List.length_set] at hy; exact hy)⟩
  · rw [List.length_set]
    refine (h.row.of_block (hg.block b0 h.row.lt (fun e => by injection e; omega))).congr fun x hx => ?_
    rw [if_pos hx, if_pos hx, hlen x hx]
  · rw [List.length_set] at hx
    obtain ⟨h2, h3, f, hf, hv⟩ := h.at_ x hx
    rw [hlen x hx]
    refine ⟨h2, h3, ?_⟩
    by_cases e : x = i
    · subst e
      refine ⟨_, hf.set j (.int .i64 v), fun y hy => ?_⟩
      rw [rwI_set R _ hx, if_pos rfl, el_set _ _ hy]
      by_cases e2 : y = j
      · rw [if_pos e2, if_pos e2]
      · rw [if_neg e2, if_neg e2]; exact hv y hy
    · have hne : blk x ≠ blk i := fun e3 => by
        rcases Nat.lt_or_gt_of_ne e with h4 | h4
        · have := h.inc x i h4 hi; omega
        · have := h.inc i x h4 hx; omega
      refine ⟨f, hf.of_block (hg.block _ hf.lt (fun e4 => by injection e4 with e4; exact hne e4)), fun y hy => ?_⟩
      rw [rwI_set R _ hx, if_neg e]
      exact hv y hy
end
set_option maxRecDepth 10000 in
/-- A copy of a list that has a place. -/
theorem cloneI_any (g o n c : Nat) (xs : List Int) (w : World) (hg : Ints .i64 w w.heap.size (some ⟨g, o, none⟩) xs) (hn : xs.length = n) (hl : n ≤ 1048576) :
    Calls Try.prog 54 #[.slice (some ⟨g, o, none⟩) n c] w fun e w' => ∃ a' c', e = .returned (.slice a' n c') ∧ Grow .i64 3 w' w.heap.size a' n c' xs ∧ Below w.heap.size w w' := by
  have hn' : ∀ W, (binOp .eql 27 (.slice (some ⟨g, o, none⟩) n c) (.slice none 0 0)).run Try.prog W = .ok (.bool false) W := fun W => Lib.run_eql_slice_nil W 27 3 (some ⟨g, o, none⟩) n c 0 0 Try.underlying27
  have IA := Lib.hid (fun o => hg.below (alloc_belowX w o))
  have BA := Lib.hid (fun o => alloc_belowX w o)
  have HL := Lib.hid hn
  clear hg hn
  go_enter Try.func54, Try.ntmps54
  go_wp2_with (at_builtin; refine wpList_appendA (.tmp 5) (.tmp 6) w.heap.size (some ⟨w.heap.size, 0, none⟩) (some ⟨g, o, none⟩) 0 0 n c w.heap.size [] xs rfl rfl rfl rfl (Grow.lit0 _ _ _ _ (Nat.le_refl _)) (IA.out _) HL.out (by omega) (by simp) ?_; intro a4 cap4 w4 hg4 hb4 _; rw [Nat.zero_add, List.nil_append] at hg4; have HG4 := Lib.hid hg4; have HB4 := Lib.hid ((BA.out _).trans hb4); clear hg4 hb4)
  go_ret
  exact ⟨_, _, by simp, HG4.out, HB4.out⟩
/-- A table without a link; what CutLink answers. -/
def ctL (R : List (List Int)) (i j : Nat) : List (List Int) := R.set i ((rwI R i).set j 0)
def ctOr (R : List (List Int)) (f t : Int) : List (List Int) := if EndsOk R f t then ctL R f.toNat t.toNat else []
theorem ctOr_yes {R : List (List Int)} {i to : Nat} (h : TiOk R) (hi : i < R.length) (hto : to < R.length) : ctOr R (i : Int) (to : Int) = ctL R i to := by
  unfold ctOr
  rw [if_pos (endsOk_of h hi hto)]
  rfl
theorem ctOr_no {R : List (List Int)} {f t : Int} (h : ¬ EndsOk R f t) : ctOr R f t = [] := by unfold ctOr; rw [if_neg h]
theorem ctL_len (R : List (List Int)) (i j : Nat) : (ctL R i j).length = R.length := by simp [ctL]
/-- What a call leaves that returns a new table. -/
def TblPost (X : List (List Int)) (w : World) (e : Ending) (w' : World) : Prop :=
  ∃ a cap, e = .returned (.slice a X.length cap) ∧ (X.length ≤ cap ∧ cap ≤ maxLen) ∧ (X ≠ [] → ∃ b0 blk cp, a = some ⟨b0, 0, none⟩ ∧ w.heap.size ≤ b0 ∧ CgR w' b0 X X.length blk cp) ∧ Below w.heap.size w w'
theorem TblPost.rows {X : List (List Int)} {w' : World} {a : Option Addr} {b1 : Nat} (h : X ≠ [] → ∃ b0 blk cp, a = some ⟨b0, 0, none⟩ ∧ b1 ≤ b0 ∧ CgR w' b0 X X.length blk cp) : RowsL w' w'.heap.size a X := fun hne => by
  obtain ⟨b0, blk, cp, rfl, _, hc⟩ := h hne
  exact hc.rows hne
set_option maxRecDepth 10000 in
set_option maxHeartbeats 4000000 in
theorem cutLink_any (a : Option Addr) (c : Nat) (R : List (List Int)) (f t : Int) (w : World) (hr : RowsL w w.heap.size a R) :
    Calls Try.prog 30 #[.slice a R.length c, .int .i64 f, .int .i64 t] w (TblPost (ctOr R f t) w) := by
  by_cases h : EndsOk R f t
  · obtain ⟨i, to, rfl, rfl, hi, hto, hok⟩ := endsOk_cases h
    have H1 := Lib.hid (linkEnds_is a c w.heap.size R (i : Int) (to : Int) true w hr (decide_eq_true h))
    rw [ctOr_yes hok hi hto]
    have HR := Lib.hid hr
    have HLN := Lib.hid (fun m (hm : m < R.length) => tiOk_row hok hm)
    have hn10 := hok.1
    have hmk := makeRows R.length (by omega)
    have HC0 := Lib.hid (cgR_made w R)
    have HB0 := Lib.hid (alloc_belowX w (.cells (madeCells #[.slice none 0 0] R.length) 27))
    have HI := Lib.hid hi
    have HTO := Lib.hid hto
    have hiI : (i : Int) < (R.length : Int) := by omega
    have htoI : (to : Int) < (R.length : Int) := by omega
    clear h hi hto hok hr
    go_enter Try.func30, Try.ntmps30
    go_wp2_with (go_at_call 52; ((with_reducible refine H1.out.mono ?_); rintro e w1 ⟨rfl, rfl⟩))
    clear hmk H1
    go_loopw [20] (fun x wr => ∃ k : Nat, k ≤ R.length ∧ x = .int .i64 (k : Int) ∧ (∃ blk cp, CgR wr w.heap.size R k blk cp) ∧ Below w.heap.size w wr) (fun x _ => R.length - (intOf x).toNat)
    case atStart => exact ⟨0, Nat.zero_le _, rfl, ⟨_, _, HC0.out⟩, HB0.out⟩
    case round =>
      obtain ⟨k, hk, rfl, ⟨blk, cp, hc⟩, hb⟩ := hrel
      have HC := Lib.hid hc
      have HB := Lib.hid hb
      clear hc hb HC0 HB0
      by_cases hlt : k < R.length
      · obtain ⟨b, off, ad, cpk, rfl, hrow, _, _, hin⟩ := (HR.out.below HB.out).at_ hlt
        have hlen := HLN.out k hlt
        rw [hlen] at hrow
        obtain ⟨g9, o9, rfl, _, _⟩ := hin.at_ (i := 0) (by rw [hlen]; omega)
        have HCL := Lib.hid (cloneI_any g9 o9 R.length cpk (rwI R k) wr (hin.more HB.out.size) hlen (by omega))
        have hltI : (k : Int) < (R.length : Int) := by omega
        have HLT := Lib.hid hlt
        have HLE := Lib.hid hlen
        clear hin hlen hlt
        go_wp2_with fail
        refine HCL.out.mono ?_
        rintro e w1 ⟨a', c', rfl, hg, hb1⟩
        obtain ⟨bn, fn, rfl, hbn, hbl, hcc, hrn, hfn⟩ := hg.row (by have := HLT.out; omega)
        have HRM := Lib.hid hg.room
        have C1 := Lib.hid (HC.out.next hb1)
        have c0 := C1.out.row.cell HLT.out
        rw [if_neg (Nat.lt_irrefl k)] at c0
        have f0 := C1.out.row.frozen k
        have hszr : w.heap.size < wr.heap.size := HC.out.row.lt
        have C2 := Lib.hid (C1.out.step (b := bn) (c := c') (f := fn) (by rw [HLE.out]; exact HRM.out) hrn (fun j hj => hfn j (by rw [HLE.out] at hj; exact hj)) (by omega) (fun i hi => by have := HC.out.lt hi; omega))
        rw [HLE.out] at C2
        have B2 := Lib.hid ((Below.next HB.out (Nat.le_refl _) hb1).setCell (p := ⟨w.heap.size, k, none⟩) (Nat.le_refl _) (.slice (some ⟨bn, 0, none⟩) R.length c'))
        clear hg hb1 hbn hbl hcc hrn hfn
        go_wp2
        go_roundw
        case rel => exact ⟨k + 1, by have := HLT.out; omega, by go_num, ⟨_, _, C2.out⟩, B2.out⟩
        case measure => have := HLT.out; simp [intOf]; omega
      · obtain rfl : R.length = k := by omega
        obtain ⟨_, hcp, fi, hfi, _⟩ := HC.out.at_ i HI.out
        have ci := HC.out.row.cell HI.out
        rw [if_pos HI.out, HLN.out i HI.out] at ci
        rw [HLN.out i HI.out] at hcp
        have cj := hfi.cell (i := to) (by have := HTO.out; omega)
        have fj := hfi.frozen to
        have HE := Lib.hid (HC.out.set (i := i) (j := to) 0 HI.out)
        have hbi : w.heap.size ≤ blk i := Nat.le_of_lt (HC.out.at_ i HI.out).1
        have HBE := Lib.hid (HB.out.setCell (p := ⟨blk i, to, none⟩) hbi (.int .i64 0))
        clear hfi hcp hbi
        go_wp2
        go_ret
        have e : R.length = (ctL R i to).length := (ctL_len R i to).symm
        refine ⟨some ⟨w.heap.size, 0, none⟩, R.length, by rw [← e]; rfl, ⟨by rw [← e]; exact Nat.le_refl _, by unfold maxLen; omega⟩, fun _ => ⟨w.heap.size, blk, cp, rfl, Nat.le_refl _, HE.out⟩, HBE.out⟩
  · rw [ctOr_no h]
    have H1 := Lib.hid (linkEnds_is a c w.heap.size R f t false w hr (decide_eq_false h))
    clear h hr
    go_enter Try.func30, Try.ntmps30
    go_wp2_with (go_at_call 52; ((with_reducible refine H1.out.mono ?_); rintro e w1 ⟨rfl, rfl⟩))
    go_ret
    exact ⟨none, 0, rfl, ⟨Nat.le_refl _, Nat.zero_le _⟩, fun h => absurd rfl h, Below.refl _ _⟩
end Go.Proofs.Ytnmhiagnmfpipaa
