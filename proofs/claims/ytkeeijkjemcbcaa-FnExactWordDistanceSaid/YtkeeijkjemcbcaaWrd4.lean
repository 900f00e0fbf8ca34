/-
  What the syndromes, the check symbols and the functions of the symbol code answer. Conditions: a list that can be read; the program's four tables lie in their variables.
-/
import Derived.Test.YtkeeijkjemcbcaaWrd3
import Derived.Test.YtkeeijkjemcbcaaSliceFns
namespace Go.Proofs.Ytkeeijkjemcbcaa
open Go.RowKit

/-- The variable wordZeros holds the zeros of the code; the variable wordGenerator the generator's coefficients. -/
def zerL : List Int := [2, 4, 8, 3]
def genL : List Int := [13, 12, 8, 7]
theorem syn6_pol {xs : List Int} (h : wok 15 xs = true) {k z : Nat} (hz : z = zr k) : polOr xs (z : Int) = (syn6 (co xs) k : Int) := by
  obtain ⟨h1, h2⟩ := wok_parts h
  have hc : coOk xs = true := by simp [coOk, h1, h2]
  rw [polOr_nat (by rw [hz]; exact zr_lt k) hc, h1, hz]; rfl

/-- Four numbers as cells. -/
def row4 (a b c d : Nat) : Array Value := #[.int .i64 a, .int .i64 b, .int .i64 c, .int .i64 d]
theorem row4_one (a b c d : Nat) : (row4 a b c d).all (·.oneCell') = true := by simp [row4, Value.oneCell']
section
variable {w W W' : World} {q0 q1 q2 q3 : Nat}
end
end Go.Proofs.Ytkeeijkjemcbcaa
