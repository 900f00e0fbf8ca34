/-
  What Equal, Grow and Concat of the library's package slices answer for lists of integers. Conditions: at most 2^20 numbers; Grow from nil; Concat of two lists that are not both empty.
-/
import Derived.Test.YtflplihhakepfaaDoorAppendA
import Derived.Test.YtflplihhakepfaaDoorImpl2
import Derived.Test.YtflplihhakepfaaDoorOne
import Derived.Outline
namespace Go.Proofs.YtflplihhakepfaaDoor
open Go.RowKit

set_option maxHeartbeats 400000 in
theorem slicesEqual_any (a a' : Option Addr) (c c' B B' : Nat) (xs ys : List Int) (w : World) (hx : Ints .i64 w B a xs) (hy : Ints .i64 w B' a' ys) (hl : xs.length ≤ 1048576) :
    Calls Tryd.prog 51 #[.slice a xs.length c, .slice a' ys.length c'] w fun e w' => e = .returned (.bool (decide (xs = ys))) ∧ ∃ n, w' = w.drewN n := by
  by_cases hlen : xs.length = ys.length
  · have hb1 : ((xs.length : Int) != (ys.length : Int)) = false := by simp [hlen]
    have HL := Lib.hid hlen
    clear hlen
    go_enter Tryd.func51, Tryd.ntmps51
    go_wp2
    clear hb1
    go_loopw [13] (fun i wr => ∃ k n : Nat, k ≤ xs.length ∧ i = .int .i64 k ∧ xs.take k = ys.take k ∧ wr = w.drewN n) (fun i _ => xs.length - (intOf i).toNat)
    case atStart => exact ⟨0, 0, Nat.zero_le _, rfl, by simp, rfl⟩
    case round =>
      obtain ⟨k, n, hk, rfl, htk, rfl⟩ := hrel
      have HT := Lib.hid htk
      clear htk
      by_cases hlt : k < xs.length
      · have hlt' : k < ys.length := by have := HL.out; omega
        obtain ⟨b, off, rfl, hb, hc⟩ := hx.at_ hlt
        obtain ⟨b', off', rfl, hb', hc'⟩ := hy.at_ hlt'
        clear hx hy
        by_cases he : el xs k = el ys k
        · have hne : (el xs k != el ys k) = false := by simp [he]
          have HE := Lib.hid he
          clear he
          go_wp2
          go_quiet (fail)
          go_wp2
          go_roundw
          case rel => exact ⟨k + 1, _, by omega, by go_num, by rw [take_el hlt, take_el hlt', HT.out, HE.out], rfl⟩
          case measure => simp [intOf]; omega
        · have hne : (el xs k != el ys k) = true := by simp [he]
          have HE : Hid (xs ≠ ys) := by
            intro e
            subst e
            exact he rfl
          clear he
          go_wp2
          go_quiet (fail)
          go_wp2
          go_ret
          exact ⟨ret_bool (by simp [HE.out]), _, World.drewN_drewN _ _ _⟩
      · have HE : Hid (xs = ys) := by
          have h1 : xs.take k = xs := List.take_of_length_le (by omega)
          have h2 : ys.take k = ys := List.take_of_length_le (by have := HL.out; omega)
          have h3 := HT.out
          rw [h1, h2] at h3
          exact h3
        clear hx hy
        go_wp2
        go_ret
        exact ⟨ret_bool (by simp [HE.out]), n, rfl⟩
  · have hb1 : ((xs.length : Int) != (ys.length : Int)) = true := by simp; omega
    have HE : Hid (xs ≠ ys) := by
      intro e
      subst e
      exact hlen rfl
    clear hlen
    go_enter Tryd.func51, Tryd.ntmps51
    go_wp2
    go_ret
    exact ⟨ret_bool (by simp [HE.out]), 0, rfl⟩

def GrowPost (w : World) (e : Ending) (w' : World) : Prop :=
  ∃ a cap, e = .returned (.slice a 0 cap) ∧ Grow .i64 3 w' w.heap.size a 0 cap [] ∧ Below w.heap.size w w'
theorem grow_cut {w : World} {base n cap : Nat} {a : Option Addr} {xs : List Int} (h : Grow .i64 3 w base a n cap xs) (ha : a ≠ none) : Grow .i64 3 w base a 0 cap [] := by
  rcases h.2 with ⟨e, h0⟩ | ⟨g, cp, cur, e, hg, hh, hnc, hcm, hcs, _⟩
  · injection e with e1; exact absurd e1 ha
  · injection e with e1 _ e3
    subst e1 e3
    exact ⟨rfl, .inr ⟨g, cap, cur, rfl, hg, hh, Nat.zero_le _, hcm, hcs, by simp⟩⟩
set_option maxHeartbeats 400000 in
theorem slicesGrow_any (n : Nat) (w : World) (h0 : 0 < n) (hn : n < 1048576) :
    Calls Tryd.prog 59 #[.slice none 0 0, .int .i64 n] w (GrowPost w) := by
  go_enter Tryd.func59, Tryd.ntmps59
  go_wp2_with (at_builtin; refine wpList_appendZ (.tmp 20) (.tmp 21) w.heap.size none 0 0 n [] rfl rfl rfl rfl (Grow.nil _ _ _ _) h0 (by omega) (Nat.le_refl _) ?_; intro a1 c1 w1 hg1 hb1 hnn1; have HG1 := Lib.hid hg1; have HB1 := Lib.hid hb1; clear hg1 hb1 hnn1)
  go_ret
  refine ⟨a1, c1, rfl, grow_cut HG1.out ?_, HB1.out⟩
  obtain ⟨b, f, e, _⟩ := HG1.out.row (by omega)
  rw [e]; simp
set_option maxHeartbeats 1000000 in
theorem slicesConcat_any (bb : Nat) (a1 a2 : Option Addr) (c1 c2 : Nat) (xs ys : List Int) (w : World) (hc0 : w.cell? ⟨bb, 0, none⟩ = some (.slice a1 xs.length c1)) (hc1 : w.cell? ⟨bb, 1, none⟩ = some (.slice a2 ys.length c2))
    (hbb : bb < w.heap.size) (hx : Ints .i64 w w.heap.size a1 xs) (hy : Ints .i64 w w.heap.size a2 ys) (h0 : 0 < xs.length + ys.length) (hn : xs.length + ys.length < 1048576) :
    Calls Tryd.prog 45 #[.slice (some ⟨bb, 0, none⟩) 2 2] w (ListPostC (xs ++ ys) w) := by
  have HX := Lib.hid hx
  have HY := Lib.hid hy
  have HG := Lib.hid (fun W => slicesGrow_any (xs.length + ys.length) W h0 hn)
  clear hx hy
  have hlx : xs.length < 1048576 := by omega
  have hly : ys.length < 1048576 := by omega
  have n1 : ¬ ((xs.length : Int) < 0) := by omega
  have n2 : ¬ ((xs.length : Int) + (ys.length : Int) < 0) := by omega
  go_enter Tryd.func45, Tryd.ntmps45
  go_wp2
  refine wp_loop_rounds 3 ?_
  rw [rounds_succ]
  go_wp2
  rw [rounds_succ]
  go_wp2
  rw [rounds_succ]
  go_wp2_with fail
  refine (HG.out w).mono ?_
  rintro e w1 ⟨g1, cg1, rfl, hg1, hb1⟩
  have HG1 := Lib.hid hg1
  have HB1 := Lib.hid hb1
  have hc0' : w1.cell? ⟨bb, 0, none⟩ = some (.slice a1 xs.length c1) := (hb1.cell (p := ⟨bb, 0, none⟩) hbb).trans hc0
  have hs1 : w.heap.size ≤ w1.heap.size := hb1.size
  clear hg1 hb1 hc0 n1 n2
  go_wp2
  refine wp_loop_rounds 3 ?_
  rw [rounds_succ]
  go_wp2_with (at_builtin; refine wpList_appendA (.tmp 31) (.tmp 32) w.heap.size g1 a1 0 cg1 xs.length c1 w.heap.size [] xs rfl rfl rfl rfl HG1.out (HX.out.below HB1.out) rfl (by omega) hs1 ?_; intro g2 cg2 w2 hg2 hb2 hnn2; have HG2 := Lib.hid hg2; have HB2 := Lib.hid (HB1.out.trans hb2); have hs2 : w.heap.size ≤ w2.heap.size := (HB1.out.trans hb2).size; have hc1' : w2.cell? ⟨bb, 1, none⟩ = some (.slice a2 ys.length c2) := ((HB1.out.trans hb2).cell (p := ⟨bb, 1, none⟩) hbb).trans hc1; clear hg2 hb2 hnn2)
  rw [rounds_succ]
  clear hc0' hc1
  try simp only [Nat.zero_add]
  have HG2' : Hid (Grow .i64 3 w2 w.heap.size g2 xs.length cg2 xs) := by
    have := HG2.out
    rw [Nat.zero_add, List.nil_append] at this
    exact this
  go_wp2_with (at_builtin; refine wpList_appendA (.tmp 31) (.tmp 32) w.heap.size g2 a2 xs.length cg2 ys.length c2 w.heap.size xs ys rfl rfl rfl rfl HG2'.out (HY.out.below HB2.out) rfl (by omega) hs2 ?_; intro g3 cg3 w3 hg3 hb3 hnn3; have HG3 := Lib.hid hg3; have HB3 := Lib.hid (HB2.out.trans hb3); clear hg3 hb3 hnn3)
  rw [rounds_succ]
  go_wp2
  go_ret
  exact listPostC_grow HG3.out HB3.out
end Go.Proofs.YtflplihhakepfaaDoor
