/-
  The laws of the exactness of BitsOfBytes and BytesOfBits, walked: they return true for every list, and write into nothing that was there.
-/
import Derived.Test.YtflplihhakepfaaDoorSpec4
namespace Go.Proofs.YtflplihhakepfaaDoor
open Go.RowKit

theorem isByte_of_wf {xs : List Int} (h : ∀ n ∈ xs, (Lit.int .u8 n).wf = true) : ∀ n ∈ xs, isByte n := fun n hn => by
  have := h n hn
  simp [Lit.wf, IntKind.min, IntKind.max, IntKind.signed, IntKind.bits] at this
  exact ⟨this.1, by omega⟩
theorem bobOr_length (ds : List Int) : (bobOr ds).length ≤ 1048576 := by
  unfold bobOr; split
  · next h => rw [bitList_length]; have : ds.length ≤ 128 := by simpa [bytesOk] using h
              omega
  · simp
theorem yobOr_length (xs : List Int) (h : xs.length ≤ 1048576) : (yobOr xs).length ≤ 1048576 := by
  unfold yobOr; split
  · rw [byteList_length]; omega
  · simp
theorem own_of_bytes {w w' : World} {a : Option Addr} {xs : List Int} (h : OwnInts .u8 5 w' w.heap.size a xs) : Own .u8 5 w' w.heap.size w'.heap.size a xs := fun hne => by
  obtain ⟨b, cap, e, h1, h2, f, h4, h5⟩ := h hne
  exact ⟨b, cap, f, e, h1, h4.lt, h2, h4, h5⟩
end Go.Proofs.YtflplihhakepfaaDoor
