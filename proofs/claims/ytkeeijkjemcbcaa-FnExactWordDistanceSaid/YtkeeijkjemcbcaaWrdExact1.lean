/-
  The exact law of WordDistance: the code answers as the model does and changes neither list. Condition: none of ours; every two lists that can be read.
-/
import Derived.Test.YtkeeijkjemcbcaaWrd7
import Derived.Test.YtkeeijkjemcbcaaOne
namespace Go.Proofs.Ytkeeijkjemcbcaa
open Go.RowKit

set_option maxHeartbeats 1000000 in
theorem walkExactWordDistance (a : Option Addr) (c : Nat) (xs : List Int) (a' : Option Addr) (c' : Nat) (ys : List Int) (w : World)
    (hx : Ints .i64 w w.heap.size a xs) (_hw : ∀ n ∈ xs, (Lit.int .i64 n).wf = true) (hy : Ints .i64 w w.heap.size a' ys) (_hw' : ∀ n ∈ ys, (Lit.int .i64 n).wf = true) :
    Calls Try.prog 3 #[.slice a xs.length c, .slice a' ys.length c'] w fun e w' => e = .returned (.bool true) ∧ Below w.heap.size w w' := by
  have HX := Lib.hid hx
  have HY := Lib.hid hy
  clear hx hy _hw _hw'
  by_cases hl : xs.length ≤ 1048576
  · by_cases hl' : ys.length ≤ 1048576
    · have HL := Lib.hid hl
      have HL' := Lib.hid hl'
      go_enter Try.func3, Try.ntmps3
      go_wp2_with fail
      refine (toIntS_ints a c xs w HX.out hl).mono ?_
      rintro e w1 ⟨rfl, p1, b1⟩
      have P1 := Lib.hid p1
      have B1 := Lib.hid b1
      clear p1 b1
      go_wp2_with fail
      refine (toIntS_ints a' c' ys w1 (HY.out.next B1.out) hl').mono ?_
      rintro e w2 ⟨rfl, p2, b2⟩
      have P2 := Lib.hid p2
      have B2 := Lib.hid (Below.next B1.out (Nat.le_refl _) b2)
      have P1' := Lib.hid (P1.out.next b2)
      clear p2 b2
      go_wp2_with fail
      refine (specWordDistance_any _ _ _ _ xs ys w2 P1'.out P2.out HL.out HL'.out).mono ?_
      rintro e w3 ⟨rfl, n, rfl⟩
      clear P1 P1' P2 B1
      have B3 := Lib.hid (below_drewN B2.out n)
      generalize w2.drewN n = w3 at *
      go_wp2_with fail
      refine (toIntS_ints a c xs w3 (HX.out.next B3.out) hl).mono ?_
      rintro e w4 ⟨rfl, p4, b4⟩
      have P4 := Lib.hid p4
      have B4 := Lib.hid (Below.next B3.out (Nat.le_refl _) b4)
      clear p4 b4
      go_wp2_with fail
      refine (toIntS_ints a' c' ys w4 (HY.out.next B4.out) hl').mono ?_
      rintro e w5 ⟨rfl, p5, b5⟩
      have P5 := Lib.hid p5
      have P4' := Lib.hid (P4.out.next b5)
      have B5 := Lib.hid (Below.next B4.out (Nat.le_refl _) b5)
      clear p5 b5
      go_wp2_with fail
      refine (wordDistance_any _ _ _ _ xs ys w5 P4'.out P5.out).mono ?_
      rintro e w6 ⟨rfl, n6, rfl⟩
      have b6 := below_drewN (Below.refl w5.heap.size w5) n6
      generalize w5.drewN n6 = w6 at *
      have Q4 := Lib.hid (P4'.out.next b6)
      have Q5 := Lib.hid (P5.out.next b6)
      have B6 := Lib.hid (Below.next B5.out (Nat.le_refl _) b6)
      clear b6
      go_wp2_with fail
      refine (toIntS_ints a c xs w6 (HX.out.next B6.out) hl).mono ?_
      rintro e w7 ⟨rfl, p7, b7⟩
      have P7 := Lib.hid p7
      have Q4' := Lib.hid (Q4.out.next b7)
      have Q5' := Lib.hid (Q5.out.next b7)
      have B7 := Lib.hid (Below.next B6.out (Nat.le_refl _) b7)
      clear p7 b7
      go_wp2_with fail
      refine (eqIntS_any _ _ _ _ w7.heap.size w7.heap.size xs xs w7 Q4'.out P7.out hl).mono ?_
      rintro e w8 ⟨rfl, n8, rfl⟩
      have B8 := Lib.hid (below_drewN B7.out n8)
      have Q58 := Lib.hid (Q5'.out.drewN n8)
      clear Q5' P7 Q4'
      have hz : decide (xs = xs) = true := by simp
      have hz' : decide (ys = ys) = true := by simp
      go_wp2_with fail
      refine (toIntS_ints a' c' ys _ (HY.out.next B8.out) hl').mono ?_
      rintro e w9 ⟨rfl, p9, b9⟩
      have P9 := Lib.hid p9
      have Q9 := Lib.hid (Ints.next (w := w7.drewN n8) Q58.out b9)
      have B9 := Lib.hid (Below.next B8.out (Nat.le_refl _) b9)
      clear p9 b9
      go_wp2_with fail
      refine (eqIntS_any _ _ _ _ w9.heap.size w9.heap.size ys ys w9 Q9.out P9.out hl').mono ?_
      rintro e w10 ⟨rfl, n10, rfl⟩
      go_wp2
      go_ret
      exact ⟨rfl, below_drewN B9.out n10⟩
    · go_enter Try.func3, Try.ntmps3
      go_wp2
      go_ret
      exact ⟨rfl, Below.refl _ _⟩
  · go_enter Try.func3, Try.ntmps3
    go_wp2
    go_ret
    exact ⟨rfl, Below.refl _ _⟩
end Go.Proofs.Ytkeeijkjemcbcaa
