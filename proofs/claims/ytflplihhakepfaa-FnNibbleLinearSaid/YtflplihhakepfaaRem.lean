/-
  What one step of the division, the whole division, and the digits of a number answer. Conditions: the polynomial is valid; the list is packed.
-/
import Derived.Test.YtflplihhakepfaaNum
import Derived.Outline
namespace Go.Proofs.Ytflplihhakepfaa
open Go.RowKit

theorem cast_pow2 (n : Nat) : ((2 ^ n : Nat) : Int) = (2 : Int) ^ n := Int.natCast_pow 2 n
theorem low_mask {d S : Nat} (hd : d ≤ 16) (hS : S < 2 ^ 63) : bits BinOp.and IntKind.i64 (S : Int) (wrap64 (wrap64 ((2 : Int) ^ d) - 1)) = ((S % 2 ^ d : Nat) : Int) := by
  have hp : 2 ^ d ≤ 2 ^ 16 := Nat.pow_le_pow_right (by omega) hd
  have h0 := Nat.two_pow_pos d
  have h1 : wrap64 (wrap64 ((2 : Int) ^ d) - 1) = ((2 ^ d - 1 : Nat) : Int) := by
    rw [← cast_pow2]
    generalize 2 ^ d = q at *
    rw [wrap64_in (by omega), show ((q : Int) - 1) = ((q - 1 : Nat) : Int) by omega, wrap64_in (by omega)]
  rw [h1, i64_and S (2 ^ d - 1) hS (by omega), Nat.and_two_pow_sub_one_eq_mod]
/-- The digits of a number, the highest first. -/
def digits (r n : Nat) : List Int := bitList (fun k => r.testBit (n - 1 - k)) n
theorem digits_length (r n : Nat) : (digits r n).length = n := bitList_length _ _
theorem digit_eq {r n k : Nat} (hr : r < 65536) : bits .and .i64 ((r : Int) / 2 ^ (n - 1 - k)) 1 = if r.testBit (n - 1 - k) then 1 else 0 := by
  have h2 : ((r : Int) / 2 ^ (n - 1 - k)) = ((r / 2 ^ (n - 1 - k) : Nat) : Int) := by
    rw [Int.natCast_ediv, cast_pow2]
  have hlt : r / 2 ^ (n - 1 - k) ≤ r := Nat.div_le_self _ _
  rw [h2, Nat.testBit_eq_decide_div_mod_eq]
  generalize r / 2 ^ (n - 1 - k) = q at *
  rw [and_one (by omega) (by omega)]
  rcases Nat.mod_two_eq_zero_or_one q with h | h
  · simp [h]; omega
  · simp [h]; omega
end Go.Proofs.Ytflplihhakepfaa
