/-
  The laws of FieldAdd, FieldMul, FieldInverse, of squares and of the generator, walked: they return true for every code, and write into nothing that was there. Conditions: the program's two tables lie in their variables, where they are asked.
-/
import Derived.Test.YtkeeijkjemcbcaaDoorFldDraw
import Derived.Test.YtkeeijkjemcbcaaDoorFld3
import Derived.Test.YtkeeijkjemcbcaaDoorFldSpec
namespace Go.Proofs.YtkeeijkjemcbcaaDoor
open Go.RowKit

/-- The tables lie there, and nothing that was there at first has changed. -/
def St (w0 w : World) : Prop := Tabs2 w ∧ Below w0.heap.size w0 w
theorem St.below {w0 w : World} (h : St w0 w) : Below w0.heap.size w0 w := h.2
theorem St.next {w0 w w' : World} (h : St w0 w) (hb : Below w.heap.size w w') : St w0 w' := ⟨h.1.next hb, Below.next h.2 (Nat.le_refl _) hb⟩
theorem St.drewN {w0 w : World} (h : St w0 w) (n : Nat) : St w0 (w.drewN n) := ⟨h.1, below_drewN h.2 n⟩
theorem St.first {w w' : World} (h : Tabs2 w) (hb : Below w.heap.size w w') : St w w' := ⟨h.next hb, hb⟩
theorem add_is (a b c : Nat) (w : World) (ha : a < 16) (hb : b < 16) (h : a ^^^ b = c) :
    Calls Tryd.prog 18 #[.int .i64 a, .int .i64 b] w fun e w' => e = .returned (.int .i64 (c : Int)) ∧ w = w' := by
  have := fieldAdd_any (a : Int) (b : Int) w
  rwa [addOr_nat ha hb, h] at this
theorem inv_is (a c : Nat) (w0 w : World) (hS : St w0 w) (ha : a < 16) (h : finv a = c) :
    Calls Tryd.prog 68 #[.int .i64 a] w fun e w' => e = .returned (.int .i64 (c : Int)) ∧ w = w' := by
  have := fieldInverse_any (a : Int) w hS.1
  rwa [invOr_nat ha, h] at this
theorem alive_st (w0 w : World) (hS : St w0 w) : Calls Tryd.prog 17 #[] w fun e w' => e = .returned (.bool true) ∧ St w0 w' := by
  refine (alive_any w).mono ?_
  rintro e w' ⟨h1, h2⟩
  exact ⟨h1, hS.next h2⟩
theorem addOr_swap (a b : Int) : addOr b a = addOr a b := by
  unfold addOr; rw [Bool.and_comm, Nat.xor_comm]
theorem both_ok {a b : Int} : (elOk a = true ∧ elOk b = true) ∨ (addOr a b = -1 ∧ mulOr a b = -1 ∧ mulOr b a = -1) := by
  cases ha : elOk a
  · exact .inr ⟨addOr_l ha, mulOr_l ha, mulOr_r ha⟩
  · cases hb : elOk b
    · exact .inr ⟨addOr_r hb, mulOr_r hb, mulOr_l hb⟩
    · exact .inl ⟨rfl, rfl⟩
theorem xor_back (m n : Nat) : (m ^^^ n) ^^^ n = m := by rw [Nat.xor_assoc, Nat.xor_self, Nat.xor_zero]

end Go.Proofs.YtkeeijkjemcbcaaDoor
