/-
  What unpacking a packed list answers, and the sums that counting gives. Condition: at most MaxBits bits.
-/
import Derived.Test.YtnmhiagnmfpipaaPlus
namespace Go.Proofs.Ytnmhiagnmfpipaa
open Go.RowKit

/-- The list of the first n bits of f. -/
def bitList (f : Nat → Bool) (n : Nat) : List Int := (List.range n).map fun j => if f j then 1 else 0
theorem bitList_length (f : Nat → Bool) (n : Nat) : (bitList f n).length = n := by simp [bitList]
theorem bitList_el (f : Nat → Bool) (n j : Nat) (h : j < n) : el (bitList f n) j = if f j then 1 else 0 := by
  simp [el, bitList, h]
theorem bitOf_packed {P : Nat → Nat} {f : Nat → Bool} (h : Packed P f) {j : Nat} (hj : j < 1024) : bitOf (P (j / 64)) (j % 64) = if f j then 1 else 0 := by
  unfold bitOf; rw [h.2 j hj]

end Go.Proofs.Ytnmhiagnmfpipaa
