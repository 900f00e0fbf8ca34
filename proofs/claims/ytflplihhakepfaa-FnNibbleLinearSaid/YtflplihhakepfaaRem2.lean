/-
  What the whole division of a packed list answers. Conditions: the polynomial is valid; the list is packed.
-/
import Derived.Test.YtflplihhakepfaaRem
namespace Go.Proofs.Ytflplihhakepfaa
open Go.RowKit

theorem number_packed {P : Nat → Nat} {f : Nat → Bool} (h : Packed P f) {k c : Nat} (hk : k % 4 = 0) (hc : c ≤ 4) (hkc : k + c ≤ 1024) :
    P (k / 64) / 2 ^ (64 - c - k % 64) % 2 ^ c = numF (fun j => f (k + j)) c := by
  apply Nat.eq_of_testBit_eq
  intro i
  rw [numF_test, Nat.testBit_mod_two_pow, Nat.testBit_div_two_pow]
  by_cases hi : i < c
  · simp only [hi, decide_true, Bool.true_and]
    have h1 := h.2 (k + (c - 1 - i)) (by omega)
    rw [show (k + (c - 1 - i)) / 64 = k / 64 by omega] at h1
    rw [← h1]
    congr 1
    omega
  · simp [hi]
theorem tab_next {g : Int} (hg : genOk g = true) (f : Nat → Bool) (k c : Nat) :
    (tab g.toNat (deg g) (numF f k) * 2 ^ c) % 2 ^ deg g ^^^ tab g.toNat (deg g) ((tab g.toNat (deg g) (numF f k) * 2 ^ c) / 2 ^ deg g ^^^ numF (fun j => f (k + j)) c) = tab g.toNat (deg g) (numF f (k + c)) := by
  rw [numF_add, tab_more (deg_pow hg).1 (deg_pow hg).2 _ _ _ (numF_lt _ _)]
end Go.Proofs.Ytflplihhakepfaa
