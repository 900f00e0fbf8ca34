/-
  The law of HammingDistance's exactness, walked: it returns true for every two lists, and writes into nothing that was there.
-/
import Derived.Test.YtflplihhakepfaaDoorSpec2
namespace Go.Proofs.YtflplihhakepfaaDoor
open Go.RowKit

theorem Ints.next {k : IntKind} {w w' : World} {a : Option Addr} {xs : List Int} (h : Ints k w w.heap.size a xs) (hb : Below w.heap.size w w') : Ints k w' w'.heap.size a xs := (h.below hb).more hb.size
theorem Below.next {B : Nat} {w w' w'' : World} (h : Below B w w') (hB : B ≤ w.heap.size) (h' : Below w'.heap.size w' w'') : Below B w w'' := h.trans (h'.mono (Nat.le_trans hB h.size))
end Go.Proofs.YtflplihhakepfaaDoor
