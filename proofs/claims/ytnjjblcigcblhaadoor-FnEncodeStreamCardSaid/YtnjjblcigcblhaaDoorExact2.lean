/-
  The law of AddBits' exactness, walked: it returns true for every two lists, and writes into nothing that was there.
-/
import Derived.Test.YtnjjblcigcblhaaDoorOne
namespace Go.Proofs.YtnjjblcigcblhaaDoor
open Go.RowKit

theorem sumOr_length (xs ys : List Int) (h : xs.length ≤ 1048576) : (sumOr xs ys).length ≤ 1048576 := by
  unfold sumOr; split
  · simp [sumBits, bitList_length, h]
  · simp

end Go.Proofs.YtnjjblcigcblhaaDoor
