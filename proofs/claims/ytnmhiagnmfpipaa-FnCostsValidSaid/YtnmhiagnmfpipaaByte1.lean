/-
  Bytes in words of 64 bits: plain mathematics, and what the two methods on a word answer. Conditions: a byte is below 256, its place lies in the word.
-/
import Derived.Test.YtnmhiagnmfpipaaPack
import Derived.Test.YtnmhiagnmfpipaaList1
namespace Go.Proofs.Ytnmhiagnmfpipaa
open Go.RowKit

def orByte (W p v : Nat) : Nat := W ||| v * 2 ^ (56 - p)
def byteIn (W p : Nat) : Nat := W / 2 ^ (56 - p) % 256
/-- The bits of bytes, the highest of each first; of the first k bytes. -/
def bytesF (ds : List Int) (k : Nat) (j : Nat) : Bool := decide (j < 8 * k) && (el ds (j / 8)).toNat.testBit (7 - j % 8)
/-- The number with the digits f s, f (s + 1), .., m of them, the highest first. -/
def msb (f : Nat → Bool) (s : Nat) : Nat → Nat
  | 0 => 0
  | m + 1 => 2 * msb f s m + (f (s + m)).toNat
theorem msb_lt (f : Nat → Bool) (s m : Nat) : msb f s m < 2 ^ m := by
  induction m with
  | zero => simp [msb]
  | succ m ih => simp only [msb, Nat.pow_succ]; have := Bool.toNat_le (f (s + m)); omega
theorem msb_test (f : Nat → Bool) (s m i : Nat) (h : i < m) : (msb f s m).testBit i = f (s + (m - 1 - i)) := by
  induction m generalizing i with
  | zero => omega
  | succ m ih =>
    simp only [msb]
    cases i with
    | zero =>
      rw [Nat.testBit_zero]
      cases hf : f (s + m) <;> simp [hf] <;> omega
    | succ i =>
      rw [Nat.testBit_succ]
      have : (2 * msb f s m + (f (s + m)).toNat) / 2 = msb f s m := by have := Bool.toNat_le (f (s + m)); omega
      rw [this, ih i (by omega)]
      congr 2
      omega
theorem byteIn_lt (W p : Nat) : byteIn W p < 256 := Nat.mod_lt _ (by omega)
theorem byteIn_test (W p i : Nat) (hi : i < 8) : (byteIn W p).testBit i = W.testBit (56 - p + i) := by
  unfold byteIn
  rw [show (256 : Nat) = 2 ^ 8 from rfl, Nat.testBit_mod_two_pow, Nat.testBit_div_two_pow, decide_eq_true hi, Bool.true_and]
  first | rfl | (congr 1; omega)
theorem orByte_lt (W p v : Nat) (hW : W < 2 ^ 64) (hv : v < 256) (_hp : p ≤ 56) : orByte W p v < 2 ^ 64 := by
  unfold orByte
  refine Nat.or_lt_two_pow hW ?_
  have h : 2 ^ (56 - p) ≤ 2 ^ 56 := Nat.pow_le_pow_right (by omega) (by omega)
  calc v * 2 ^ (56 - p) ≤ 255 * 2 ^ 56 := Nat.mul_le_mul (by omega) h
    _ < 2 ^ 64 := by omega
theorem orByte_test (W p v q : Nat) (hv : v < 256) (hp : p ≤ 56) (hq : q < 64) :
    (orByte W p v).testBit (63 - q) = (W.testBit (63 - q) || (decide (p ≤ q ∧ q < p + 8) && v.testBit (7 - (q - p)))) := by
  unfold orByte
  rw [Nat.testBit_or, Nat.testBit_mul_two_pow]
  congr 1
  by_cases h1 : p ≤ q ∧ q < p + 8
  · rw [decide_eq_true h1, decide_eq_true (show 63 - q ≥ 56 - p by omega), Bool.true_and, Bool.true_and]
    congr 1
    omega
  · rw [decide_eq_false h1, Bool.false_and]
    by_cases h2 : q < p
    · have : v.testBit (63 - q - (56 - p)) = false := Nat.testBit_lt_two_pow (Nat.lt_of_lt_of_le hv (by
        have : 2 ^ 8 ≤ 2 ^ (63 - q - (56 - p)) := Nat.pow_le_pow_right (by omega) (by omega)
        simpa using this))
      rw [this, Bool.and_false]
    · rw [decide_eq_false (show ¬ 63 - q ≥ 56 - p by omega), Bool.false_and]
theorem packed_byte {P : Nat → Nat} {ds : List Int} {k : Nat} (h : Packed P (bytesF ds k)) (hk : k < 128) (hv : (el ds k).toNat < 256) :
    Packed (fun j => if j = k * 8 / 64 then orByte (P (k * 8 / 64)) (k * 8 % 64) (el ds k).toNat else P j) (bytesF ds (k + 1)) := by
  obtain ⟨h1, h2⟩ := h
  have hd : k * 8 / 64 < 16 := by omega
  refine ⟨fun i hi => ?_, fun j hj => ?_⟩
  · by_cases e : i = k * 8 / 64
    · simp only [e, if_true]; exact orByte_lt _ _ _ (h1 _ hd) hv (by omega)
    · simp only [e, if_false]; exact h1 i hi
  · by_cases e : j / 64 = k * 8 / 64
    · simp only [e, if_true]
      rw [orByte_test _ _ _ _ hv (by omega) (by omega)]
      have := h2 j hj
      rw [e] at this
      rw [this]
      unfold bytesF
      by_cases ej : k * 8 ≤ j ∧ j < k * 8 + 8
      · have e1 : k * 8 % 64 ≤ j % 64 ∧ j % 64 < k * 8 % 64 + 8 := by omega
        have e2 : ¬ j < 8 * k := by omega
        have e3 : j < 8 * (k + 1) := by omega
        have e4 : j / 8 = k := by omega
        have e5 : 7 - (j % 64 - k * 8 % 64) = 7 - j % 8 := by omega
        rw [decide_eq_true e1, decide_eq_false e2, decide_eq_true e3, e4, e5]
        simp
      · have e1 : ¬ (k * 8 % 64 ≤ j % 64 ∧ j % 64 < k * 8 % 64 + 8) := by omega
        have e2 : (j < 8 * k) ↔ (j < 8 * (k + 1)) := by omega
        rw [decide_eq_false e1, Bool.false_and, Bool.or_false, decide_eq_decide.2 e2]
    · simp only [e, if_false]
      rw [h2 j hj]
      unfold bytesF
      have e2 : (j < 8 * k) ↔ (j < 8 * (k + 1)) := by omega
      rw [decide_eq_decide.2 e2]
theorem packed_nobyte (ds : List Int) : Packed (fun _ => 0) (bytesF ds 0) := ⟨fun _ _ => by simp, fun j hj => by simp [bytesF]⟩
/-- The bytes of f. -/
def byteList (f : Nat → Bool) (n : Nat) : List Int := (List.range n).map fun k => (msb f (8 * k) 8 : Int)
theorem byteList_length (f : Nat → Bool) (n : Nat) : (byteList f n).length = n := by simp [byteList]
theorem byteList_el (f : Nat → Bool) (n k : Nat) (h : k < n) : el (byteList f n) k = (msb f (8 * k) 8 : Int) := by simp [el, byteList, h]
theorem byteIn_packed {P : Nat → Nat} {f : Nat → Bool} (h : Packed P f) {k : Nat} (hk : k < 128) : byteIn (P (k * 8 / 64)) (k * 8 % 64) = msb f (8 * k) 8 := by
  apply Nat.eq_of_testBit_eq
  intro i
  by_cases hi : i < 8
  · rw [byteIn_test _ _ _ hi, msb_test _ _ _ _ hi]
    have := h.2 (8 * k + (8 - 1 - i)) (by omega)
    rw [← this]
    rw [show (8 * k + (8 - 1 - i)) / 64 = k * 8 / 64 by omega]
    congr 1
    omega
  · have h1 : ∀ x : Nat, x < 256 → x.testBit i = false := fun x hx => Nat.testBit_lt_two_pow (Nat.lt_of_lt_of_le hx (by
      have : 2 ^ 8 ≤ 2 ^ i := Nat.pow_le_pow_right (by omega) (by omega)
      simpa using this))
    rw [h1 _ (byteIn_lt _ _), h1 _ (msb_lt f (8 * k) 8)]

theorem or_byte (W p v : Nat) (hW : W < 2 ^ 64) (hv : v < 256) (hp : p ≤ 56) : bits .or .u64 (W : Int) (IntKind.u64.wrap ((v : Int) * 2 ^ (56 - p))) = (orByte W p v : Int) := by
  have h2 : ((v : Int) * 2 ^ (56 - p)) = ((v * 2 ^ (56 - p) : Nat) : Int) := by rw [Int.natCast_mul, Int.natCast_pow]; rfl
  have h : 2 ^ (56 - p) ≤ 2 ^ 56 := Nat.pow_le_pow_right (by omega) (by omega)
  have hlt : v * 2 ^ (56 - p) < 18446744073709551616 := Nat.lt_of_le_of_lt (Nat.mul_le_mul (show v ≤ 255 by omega) h) (by omega)
  have ho := u64_or_nat W (v * 2 ^ (56 - p)) (by omega) hlt
  unfold orByte
  rw [h2, IntKind.wrap_u64]
  generalize v * 2 ^ (56 - p) = q at *
  rw [show (q : Int) % 18446744073709551616 = q by omega]
  exact ho
end Go.Proofs.Ytnmhiagnmfpipaa
