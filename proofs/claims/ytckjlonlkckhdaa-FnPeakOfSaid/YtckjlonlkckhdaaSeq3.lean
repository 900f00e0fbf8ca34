/-
  What CorrelateAt, FindPattern and their models answer, for all arguments. Condition: the lists can be read; the models: the lengths can be.
-/
import Derived.Test.YtckjlonlkckhdaaSeq2
namespace Go.Proofs.Ytckjlonlkckhdaa
open Go.RowKit

def cS (xs ps : List Int) (q : Nat) : Int := crS xs ps q ps.length
/-- The numbers of one product of a correlation. -/
theorem cr_nums {xs ps : List Int} (hx : seqOk xs = true) (hp : seqOk ps = true) (q : Nat) {k : Nat} (hk : k < ps.length) : ∃ p s u v z : Int, p = el ps k ∧ s = el xs (q + k) ∧ u = p * s ∧ z = crS xs ps q k ∧ v = z + u ∧ v = crS xs ps q (k + 1) ∧ u = s * p ∧
    (-1000000000000 ≤ u ∧ u ≤ 1000000000000) ∧ (-1000000000000 ≤ v ∧ v ≤ 1000000000000) := by
  have h1 := prod_in (seqOk_in hp k) (seqOk_in hx (q + k))
  have hl := seqOk_len hp
  have h2 := crS_in hx hp q (k + 1) (by omega)
  have e : crS xs ps q (k + 1) = crS xs ps q k + el ps k * el xs (q + k) := by rw [Int.mul_comm]; rfl
  exact ⟨_, _, _, _, _, rfl, rfl, rfl, rfl, rfl, e.symm, Int.mul_comm _ _, by omega, by omega⟩
end Go.Proofs.Ytckjlonlkckhdaa
