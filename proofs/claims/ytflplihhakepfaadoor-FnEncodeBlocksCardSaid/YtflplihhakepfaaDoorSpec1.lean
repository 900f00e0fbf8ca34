/-
  What the model's HammingDistance and AddBits answer, for every two lists.
-/
import Derived.Test.YtflplihhakepfaaDoorImpl2
namespace Go.Proofs.YtflplihhakepfaaDoor
open Go.RowKit

theorem bit_cases {xs : List Int} (h : bitsOk xs = true) {k : Nat} (hk : k < xs.length) : el xs k = 0 ∨ el xs k = 1 := by
  simp only [bitsOk, Bool.and_eq_true, List.all_eq_true] at h
  have := h.2 _ (el_mem hk)
  simpa [isBit] using this
theorem xor00 : bits .xor .i64 0 0 = 0 := by kernel_rfl
theorem xor01 : bits .xor .i64 0 1 = 1 := by kernel_rfl
theorem xor10 : bits .xor .i64 1 0 = 1 := by kernel_rfl
theorem xor11 : bits .xor .i64 1 1 = 0 := by kernel_rfl
theorem xor_el {xs ys : List Int} (h : pairOk xs ys = true) {k : Nat} (hk : k < xs.length) : bits .xor .i64 (el xs k) (el ys k) = ((xorF xs ys k).toNat : Int) := by
  obtain ⟨h1, h2, h3⟩ := pairOk_parts h
  have a1 := bit_cases h1 hk
  have a2 := bit_cases h2 (k := k) (by omega)
  unfold xorF bitsF
  rcases a1 with e1 | e1 <;> rcases a2 with e2 | e2 <;> rw [e1, e2] <;> simp [hk, xor00, xor01, xor10, xor11]

end Go.Proofs.YtflplihhakepfaaDoor
