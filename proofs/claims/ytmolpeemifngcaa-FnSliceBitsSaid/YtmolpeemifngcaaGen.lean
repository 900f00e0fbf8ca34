/-
  What the functions on generator polynomials answer, and their models: valid or not, and the degree. Conditions: the number is one of 64 bits; the degree is asked of a valid one.
-/
import Derived.Test.YtmolpeemifngcaaBits1
import Derived.Test.YtmolpeemifngcaaDraws
import Derived.Lib.Strings
import Derived.Lib.Slices
import Derived.Lib.Small
import Derived.Lib.Walk
import Derived.Lib.BitFns
namespace Go.Proofs.Ytmolpeemifngcaa
open Go.RowKit

def genOk (g : Int) : Bool := decide (1 < g) && decide (g < 131072) && decide (g % 2 = 1)
def deg (g : Int) : Nat := g.toNat.log2
def degOr (g : Int) : Int := if genOk g then (deg g : Int) else -1
theorem genOk_parts {g : Int} (h : genOk g = true) : 1 < g ∧ g < 131072 ∧ g % 2 = 1 := by
  simpa [genOk, and_assoc] using h
theorem and_one {g : Int} (h0 : 0 ≤ g) (h1 : g < 131072) : bits .and .i64 g 1 = g % 2 := by
  obtain ⟨n, rfl⟩ := Int.eq_ofNat_of_zero_le h0
  have h := i64_and n 1 (by omega) (by omega)
  rw [Nat.and_one_is_mod] at h
  simpa using h

theorem bitLenAux_log2 : ∀ f x : Nat, x ≠ 0 → x < 2 ^ f → Lib.bitLenAux f x = x.log2 + 1 := by
  intro f
  induction f with
  | zero => intro x h0 h; simp at h; omega
  | succ f ih =>
    intro x h0 h
    rw [Nat.pow_succ] at h
    rw [Lib.bitLenAux, if_neg h0, Nat.log2_def]
    by_cases h2 : 2 ≤ x
    · rw [ih (x / 2) (by omega) (by omega), if_pos h2]; omega
    · rw [if_neg h2, show x / 2 = 0 by omega]
      cases f <;> simp [Lib.bitLenAux]
theorem bitLen_log2 {x : Nat} (h0 : x ≠ 0) (h : x < 131072) : Lib.bitLen x = x.log2 + 1 := bitLenAux_log2 64 x h0 (by omega)

theorem deg_lt {g : Int} (h : genOk g = true) : 1 ≤ deg g ∧ deg g ≤ 16 := by
  obtain ⟨h1, h2, _⟩ := genOk_parts h
  unfold deg
  have hne : g.toNat ≠ 0 := by omega
  refine ⟨(Nat.le_log2 hne).2 (by omega), ?_⟩
  have : g.toNat.log2 < 17 := (Nat.log2_lt hne).2 (by omega)
  omega
theorem deg_pow {g : Int} (h : genOk g = true) : 2 ^ deg g ≤ g.toNat ∧ g.toNat < 2 ^ (deg g + 1) := by
  obtain ⟨h1, h2, _⟩ := genOk_parts h
  have hne : g.toNat ≠ 0 := by omega
  exact ⟨Nat.log2_self_le hne, Nat.lt_log2_self⟩
theorem log2_half {n : Nat} (h : 2 ≤ n) : n.log2 = (n / 2).log2 + 1 := by
  rw [Nat.log2_def, if_pos h]
end Go.Proofs.Ytmolpeemifngcaa
