/-
  The laws of the exactness of FieldAdd, FieldMul, FieldInverse, FieldPower and PolynomialAt, walked: they return true for all numbers and lists, and write into nothing that was there. Conditions: the program's two tables lie in their variables, where they are asked.
-/
import Derived.Test.YtlaofbaglepkgabDoorFld3
import Derived.Test.YtlaofbaglepkgabDoorFldSpec
import Derived.Test.YtlaofbaglepkgabDoorOne
namespace Go.Proofs.YtlaofbaglepkgabDoor
open Go.RowKit

theorem walkExactFieldMul (a b : Int) (w : World) (hT : Tabs2 w) : Calls Tryd.prog 3 #[.int .i64 a, .int .i64 b] w fun e w' => e = .returned (.bool true) ∧ Below w.heap.size w w' := by
  have HS := Lib.hid (specFieldMul_any a b w)
  have HI := Lib.hid (fieldMul_any a b w hT)
  clear hT
  generalize mulOr a b = R at *
  have z : (R != R) = false := by simp
  go_enter Tryd.func3, Tryd.ntmps3
  go_wp2_with (first | (go_at_call 7; refine HS.out.mono ?_; rintro e w' ⟨rfl, rfl⟩) | (go_at_call 8; refine HI.out.mono ?_; rintro e w' ⟨rfl, n, rfl⟩))
  go_ret
  exact ⟨rfl, below_drewN (Below.refl _ _) n⟩
theorem walkExactFieldInverse (a : Int) (w : World) (hT : Tabs2 w) : Calls Tryd.prog 4 #[.int .i64 a] w fun e w' => e = .returned (.bool true) ∧ Below w.heap.size w w' := by
  have HS := Lib.hid (specFieldInverse_any a w)
  have HI := Lib.hid (fieldInverse_any a w hT)
  clear hT
  generalize invOr a = R at *
  have z : (R != R) = false := by simp
  go_enter Tryd.func4, Tryd.ntmps4
  go_wp2_with (first | (go_at_call 9; refine HS.out.mono ?_; rintro e w' ⟨rfl, rfl⟩) | (go_at_call 10; refine HI.out.mono ?_; rintro e w' ⟨rfl, rfl⟩))
  go_ret
  exact ⟨rfl, Below.refl _ _⟩
theorem walkExactFieldPower (a n : Int) (w : World) (hT : Tabs2 w) : Calls Tryd.prog 5 #[.int .i64 a, .int .i64 n] w fun e w' => e = .returned (.bool true) ∧ Below w.heap.size w w' := by
  have HS := Lib.hid (specFieldPower_any a n w)
  have HI := Lib.hid (fieldPower_any a n w hT)
  clear hT
  generalize powOr a n = R at *
  have z : (R != R) = false := by simp
  go_enter Tryd.func5, Tryd.ntmps5
  go_wp2_with (first | (go_at_call 11; refine HS.out.mono ?_; rintro e w' ⟨rfl, rfl⟩) | (go_at_call 12; refine HI.out.mono ?_; rintro e w' ⟨rfl, rfl⟩))
  go_ret
  exact ⟨rfl, Below.refl _ _⟩

set_option maxHeartbeats 1000000 in
theorem walkExactPolynomialAt (a : Option Addr) (c : Nat) (xs : List Int) (x : Int) (w : World) (hx : Ints .i64 w w.heap.size a xs) (_hw : ∀ n ∈ xs, (Lit.int .i64 n).wf = true) (hT : Tabs2 w) :
    Calls Tryd.prog 6 #[.slice a xs.length c, .int .i64 x] w fun e w' => e = .returned (.bool true) ∧ Below w.heap.size w w' := by
  have HX := Lib.hid hx
  have HT := Lib.hid hT
  clear hx _hw hT
  by_cases hl : xs.length ≤ 1048576
  · obtain ⟨R, hR⟩ : ∃ R, R = polOr xs x := ⟨_, rfl⟩
    have HR := Lib.hid hR
    clear hR
    have z1 : decide (xs = xs) = true := by simp
    have z2 : (R != R) = false := by simp
    go_enter Tryd.func6, Tryd.ntmps6
    go_wp2_with fail
    refine (toIntS_ints a c xs w HX.out hl).mono ?_
    rintro e w1 ⟨rfl, p1, b1⟩
    have P1 := Lib.hid p1
    have B1 := Lib.hid b1
    clear p1 b1
    go_wp2_with fail
    refine (specPolynomialAt_any _ _ w1.heap.size xs x w1 P1.out).mono ?_
    rw [← HR.out]
    rintro e w2 ⟨rfl, n2, rfl⟩
    have B2 := Lib.hid (below_drewN B1.out n2)
    generalize w1.drewN n2 = w2 at *
    clear P1 B1
    go_wp2_with fail
    refine (toIntS_ints a c xs w2 (HX.out.next B2.out) hl).mono ?_
    rintro e w3 ⟨rfl, p3, b3⟩
    have P3 := Lib.hid p3
    have B3 := Lib.hid (Below.next B2.out (Nat.le_refl _) b3)
    clear p3 b3
    go_wp2_with fail
    refine (polynomialAt_any _ _ w3.heap.size xs x w3 P3.out (HT.out.next B3.out)).mono ?_
    rw [← HR.out]
    rintro e w4 ⟨rfl, n4, rfl⟩
    have P4 := Lib.hid (P3.out.drewN n4)
    have B4 := Lib.hid (below_drewN B3.out n4)
    have P4' : Hid (Ints .i64 (w3.drewN n4) (w3.drewN n4).heap.size _ xs) := P4
    clear P3 P4
    generalize w3.drewN n4 = w4 at *
    go_wp2_with fail
    refine (toIntS_ints a c xs w4 (HX.out.next B4.out) hl).mono ?_
    rintro e w5 ⟨rfl, p5, b5⟩
    have P5 := Lib.hid p5
    have Q5 := Lib.hid (P4'.out.next b5)
    have B5 := Lib.hid (Below.next B4.out (Nat.le_refl _) b5)
    clear p5 b5
    go_wp2_with fail
    refine (eqIntS_any _ _ _ _ w5.heap.size w5.heap.size xs xs w5 Q5.out P5.out hl).mono ?_
    rintro e w6 ⟨rfl, n6, rfl⟩
    go_wp2
    go_ret
    exact ⟨rfl, below_drewN B5.out n6⟩
  · go_enter Tryd.func6, Tryd.ntmps6
    go_wp2
    go_ret
    exact ⟨rfl, Below.refl _ _⟩
end Go.Proofs.YtlaofbaglepkgabDoor
