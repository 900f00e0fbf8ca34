/-
  What the models of PowerStep and LeastPowers answer. Condition: rows and lists can be read.
-/
import Derived.Test.YtgdfjbdpidileaaPw5
import Derived.Deep.RegionHeld3
import Derived.Test.YtgdfjbdpidileaaPw4
namespace Go.Proofs.Ytgdfjbdpidileaa
open Go.RowKit

theorem stL_range {R : List (List Int)} {N T : Int} {P : List Int} {k : Nat} : (List.range (k + 1)).map (stI R N T P) = (List.range k).map (stI R N T P) ++ [stI R N T P k] := by
  rw [List.range_succ, List.map_append]; rfl
end Go.Proofs.Ytgdfjbdpidileaa
