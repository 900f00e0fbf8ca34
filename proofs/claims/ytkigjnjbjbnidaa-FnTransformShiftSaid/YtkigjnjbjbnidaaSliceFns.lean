/-
  What Equal, Grow and Concat of the library's package slices answer for lists of integers. Conditions: at most 2^20 numbers; Grow from nil; Concat of two lists that are not both empty.
-/
import Derived.Test.YtkigjnjbjbnidaaAppendA
import Derived.Test.YtkigjnjbjbnidaaImpl2
import Derived.Test.YtkigjnjbjbnidaaOne
import Derived.Outline
namespace Go.Proofs.Ytkigjnjbjbnidaa
open Go.RowKit

def GrowPost (w : World) (e : Ending) (w' : World) : Prop :=
  ∃ a cap, e = .returned (.slice a 0 cap) ∧ Grow .i64 3 w' w.heap.size a 0 cap [] ∧ Below w.heap.size w w'
theorem grow_cut {w : World} {base n cap : Nat} {a : Option Addr} {xs : List Int} (h : Grow .i64 3 w base a n cap xs) (ha : a ≠ none) : Grow .i64 3 w base a 0 cap [] := by
  rcases h.2 with ⟨e, h0⟩ | ⟨g, cp, cur, e, hg, hh, hnc, hcm, hcs, _⟩
  · injection e with e1; exact absurd e1 ha
  · injection e with e1 _ e3
    subst e1 e3
    exact ⟨rfl, .inr ⟨g, cap, cur, rfl, hg, hh, Nat.zero_le _, hcm, hcs, by simp⟩⟩
set_option maxHeartbeats 400000 in
theorem slicesGrow_any (n : Nat) (w : World) (h0 : 0 < n) (hn : n < 1048576) :
    Calls Try.prog 47 #[.slice none 0 0, .int .i64 n] w (GrowPost w) := by
  go_enter Try.func47, Try.ntmps47
  go_wp2_with (at_builtin; refine wpList_appendZ (.tmp 20) (.tmp 21) w.heap.size none 0 0 n [] rfl rfl rfl rfl (Grow.nil _ _ _ _) h0 (by omega) (Nat.le_refl _) ?_; intro a1 c1 w1 hg1 hb1 hnn1; have HG1 := Lib.hid hg1; have HB1 := Lib.hid hb1; clear hg1 hb1 hnn1)
  go_ret
  refine ⟨a1, c1, rfl, grow_cut HG1.out ?_, HB1.out⟩
  obtain ⟨b, f, e, _⟩ := HG1.out.row (by omega)
  rw [e]; simp
set_option maxHeartbeats 1000000 in
theorem slicesConcat_any (bb : Nat) (a1 a2 : Option Addr) (c1 c2 : Nat) (xs ys : List Int) (w : World) (hc0 : w.cell? ⟨bb, 0, none⟩ = some (.slice a1 xs.length c1)) (hc1 : w.cell? ⟨bb, 1, none⟩ = some (.slice a2 ys.length c2))
    (hbb : bb < w.heap.size) (hx : Ints .i64 w w.heap.size a1 xs) (hy : Ints .i64 w w.heap.size a2 ys) (h0 : 0 < xs.length + ys.length) (hn : xs.length + ys.length < 1048576) :
    Calls Try.prog 37 #[.slice (some ⟨bb, 0, none⟩) 2 2] w (ListPostC (xs ++ ys) w) := by
  have HX := Lib.hid hx
  have HY := Lib.hid hy
  have HG := Lib.hid (fun W => slicesGrow_any (xs.length + ys.length) W h0 hn)
  clear hx hy
  have hlx : xs.length < 1048576 := by omega
  have hly : ys.length < 1048576 := by omega
  have n1 : ¬ ((xs.length : Int) < 0) := by omega
  have n2 : ¬ ((xs.length : Int) + (ys.length : Int) < 0) := by omega
  go_enter Try.func37, Try.ntmps37
  go_wp2
  refine wp_loop_rounds 3 ?_
  rw [rounds_succ]
  go_wp2
  rw [rounds_succ]
  go_wp2
  rw [rounds_succ]
  go_wp2_with fail
  refine (HG.out w).mono ?_
  rintro e w1 ⟨g1, cg1, rfl, hg1, hb1⟩
  have HG1 := Lib.hid hg1
  have HB1 := Lib.hid hb1
  have hc0' : w1.cell? ⟨bb, 0, none⟩ = some (.slice a1 xs.length c1) := (hb1.cell (p := ⟨bb, 0, none⟩) hbb).trans hc0
  have hs1 : w.heap.size ≤ w1.heap.size := hb1.size
  clear hg1 hb1 hc0 n1 n2
  go_wp2
  refine wp_loop_rounds 3 ?_
  rw [rounds_succ]
  go_wp2_with (at_builtin; refine wpList_appendA (.tmp 31) (.tmp 32) w.heap.size g1 a1 0 cg1 xs.length c1 w.heap.size [] xs rfl rfl rfl rfl HG1.out (HX.out.below HB1.out) rfl (by omega) hs1 ?_; intro g2 cg2 w2 hg2 hb2 hnn2; have HG2 := Lib.hid hg2; have HB2 := Lib.hid (HB1.out.trans hb2); have hs2 : w.heap.size ≤ w2.heap.size := (HB1.out.trans hb2).size; have hc1' : w2.cell? ⟨bb, 1, none⟩ = some (.slice a2 ys.length c2) := ((HB1.out.trans hb2).cell (p := ⟨bb, 1, none⟩) hbb).trans hc1; clear hg2 hb2 hnn2)
  rw [rounds_succ]
  clear hc0' hc1
  try simp only [Nat.zero_add]
  have HG2' : Hid (Grow .i64 3 w2 w.heap.size g2 xs.length cg2 xs) := by
    have := HG2.out
    rw [Nat.zero_add, List.nil_append] at this
    exact this
  go_wp2_with (at_builtin; refine wpList_appendA (.tmp 31) (.tmp 32) w.heap.size g2 a2 xs.length cg2 ys.length c2 w.heap.size xs ys rfl rfl rfl rfl HG2'.out (HY.out.below HB2.out) rfl (by omega) hs2 ?_; intro g3 cg3 w3 hg3 hb3 hnn3; have HG3 := Lib.hid hg3; have HB3 := Lib.hid (HB2.out.trans hb3); clear hg3 hb3 hnn3)
  rw [rounds_succ]
  go_wp2
  go_ret
  exact listPostC_grow HG3.out HB3.out
end Go.Proofs.Ytkigjnjbjbnidaa
