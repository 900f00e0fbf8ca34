/-
  Steps of a division, digits, remainders, walked. No condition.
-/
import Derived.Test.YtmhngakfjlkchaaNum
import Derived.Outline
namespace Go.Proofs.Ytmhngakfjlkchaa
open Go.RowKit

theorem cast_pow2 (n : Nat) : ((2 ^ n : Nat) : Int) = (2 : Int) ^ n := Int.natCast_pow 2 n
theorem low_mask {d S : Nat} (hd : d ≤ 16) (hS : S < 2 ^ 63) : bits BinOp.and IntKind.i64 (S : Int) (wrap64 (wrap64 ((2 : Int) ^ d) - 1)) = ((S % 2 ^ d : Nat) : Int) := by
  have hp : 2 ^ d ≤ 2 ^ 16 := Nat.pow_le_pow_right (by omega) hd
  have h0 := Nat.two_pow_pos d
  have h1 : wrap64 (wrap64 ((2 : Int) ^ d) - 1) = ((2 ^ d - 1 : Nat) : Int) := by
    rw [← cast_pow2]
    generalize 2 ^ d = q at *
    rw [wrap64_in (by omega), show ((q : Int) - 1) = ((q - 1 : Nat) : Int) by omega, wrap64_in (by omega)]
  rw [h1, i64_and S (2 ^ d - 1) hS (by omega), Nat.and_two_pow_sub_one_eq_mod]
/-- The digits of a number, the highest first. -/
def digits (r n : Nat) : List Int := bitList (fun k => r.testBit (n - 1 - k)) n
theorem digits_length (r n : Nat) : (digits r n).length = n := bitList_length _ _
theorem digit_eq {r n k : Nat} (hr : r < 65536) : bits .and .i64 ((r : Int) / 2 ^ (n - 1 - k)) 1 = if r.testBit (n - 1 - k) then 1 else 0 := by
  have h2 : ((r : Int) / 2 ^ (n - 1 - k)) = ((r / 2 ^ (n - 1 - k) : Nat) : Int) := by
    rw [Int.natCast_ediv, cast_pow2]
  have hlt : r / 2 ^ (n - 1 - k) ≤ r := Nat.div_le_self _ _
  rw [h2, Nat.testBit_eq_decide_div_mod_eq]
  generalize r / 2 ^ (n - 1 - k) = q at *
  rw [and_one (by omega) (by omega)]
  rcases Nat.mod_two_eq_zero_or_one q with h | h
  · simp [h]; omega
  · simp [h]; omega
theorem number_packed {P : Nat → Nat} {f : Nat → Bool} (h : Packed P f) {k c : Nat} (hk : k % 4 = 0) (hc : c ≤ 4) (hkc : k + c ≤ 1024) :
    P (k / 64) / 2 ^ (64 - c - k % 64) % 2 ^ c = numF (fun j => f (k + j)) c := by
  apply Nat.eq_of_testBit_eq
  intro i
  rw [numF_test, Nat.testBit_mod_two_pow, Nat.testBit_div_two_pow]
  by_cases hi : i < c
  · simp only [hi, decide_true, Bool.true_and]
    have h1 := h.2 (k + (c - 1 - i)) (by omega)
    rw [show (k + (c - 1 - i)) / 64 = k / 64 by omega] at h1
    rw [← h1]
    congr 1
    omega
  · simp [hi]
theorem tab_next {g : Int} (hg : genOk g = true) (f : Nat → Bool) (k c : Nat) :
    (tab g.toNat (deg g) (numF f k) * 2 ^ c) % 2 ^ deg g ^^^ tab g.toNat (deg g) ((tab g.toNat (deg g) (numF f k) * 2 ^ c) / 2 ^ deg g ^^^ numF (fun j => f (k + j)) c) = tab g.toNat (deg g) (numF f (k + c)) := by
  rw [numF_add, tab_more (deg_pow hg).1 (deg_pow hg).2 _ _ _ (numF_lt _ _)]
end Go.Proofs.Ytmhngakfjlkchaa
