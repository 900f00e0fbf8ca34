/-
  What packing a list of bits answers: the words hold the bits, or false for a list that is not valid. Condition: the list has at most MaxBits numbers (longer ones: the second theorem).
-/
import Derived.Test.YtkigjnjbjbnidabPack
namespace Go.Proofs.Ytkigjnjbjbnidab
open Go.RowKit

/-- What packing leaves. -/
def PackPost (xs : List Int) (w : World) (e : Ending) (w' : World) : Prop :=
  ∃ cs P, e = .returned (.tuple #[.agg cs, .bool (bitsOk xs)]) ∧ (bitsOk xs = true → IsPack cs P xs.length ∧ Packed P (bitsF xs xs.length)) ∧ cs.size = 17 ∧ cs.all (·.oneCell') = true ∧ Below w.heap.size w w'

end Go.Proofs.Ytkigjnjbjbnidab
