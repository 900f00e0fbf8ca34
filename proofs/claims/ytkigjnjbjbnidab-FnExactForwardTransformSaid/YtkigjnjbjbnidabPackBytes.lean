/-
  What packing bytes answers: the words hold the bits of the bytes, or false for too many bytes. Condition: each number is a byte.
-/
import Derived.Test.YtkigjnjbjbnidabByte1
import Derived.Test.YtkigjnjbjbnidabPackBits
namespace Go.Proofs.Ytkigjnjbjbnidab
open Go.RowKit

def isByte (n : Int) : Prop := 0 ≤ n ∧ n < 256
def bytesOk (ds : List Int) : Bool := decide (ds.length ≤ 128)
def BytePost (ds : List Int) (w : World) (e : Ending) (w' : World) : Prop :=
  ∃ cs P, e = .returned (.tuple #[.agg cs, .bool (bytesOk ds)]) ∧ (bytesOk ds = true → IsPack cs P (ds.length * 8) ∧ Packed P (bytesF ds ds.length)) ∧ cs.size = 17 ∧ cs.all (·.oneCell') = true ∧ Below w.heap.size w w'
end Go.Proofs.Ytkigjnjbjbnidab
