/-
  What counting the ones of a word answers. Condition: the word is below 2^64.
-/
import Derived.Test.YtnmhiagnmfpipaaPop
import Derived.Test.YtnmhiagnmfpipaaPack
namespace Go.Proofs.Ytnmhiagnmfpipaa
open Go.RowKit

theorem i64_and (a b : Nat) (ha : a < 2 ^ 63) (hb : b < 2 ^ 63) : bits .and .i64 (a : Int) (b : Int) = ((a &&& b : Nat) : Int) := by
  have hof : ∀ n : Nat, n < 2 ^ 63 → (BitVec.ofInt 64 (n : Int)).toNat = n := fun n hn => by
    rw [BitVec.ofInt_natCast, BitVec.toNat_ofNat]; exact Nat.mod_eq_of_lt (by omega)
  have hle : a &&& b ≤ a := Nat.and_le_left
  show IntKind.i64.wrap ((BitVec.ofInt 64 (a : Int) &&& BitVec.ofInt 64 (b : Int)).toNat : Int) = _
  rw [BitVec.toNat_and, hof a ha, hof b hb, IntKind.wrap_i64]
  generalize a &&& b = q at hle
  omega
theorem u64_and' (a b : Nat) (A B : Int) (hA : A = a) (hB : B = b) (ha : a < 2 ^ 64) (hb : b < 2 ^ 64) : bits .and .u64 A B = ((a &&& b : Nat) : Int) := by
  subst hA hB; exact u64_and_nat a b (by omega) (by omega)
theorem wrap64_in {n : Nat} (h : n < 2 ^ 63) : wrap64 (n : Int) = n := by
  unfold wrap64
  omega
theorem wrap_u64' (n : Nat) (A : Int) (hA : A = n) (h : n < 2 ^ 64) : IntKind.u64.wrap A = (n : Int) := by
  subst hA; rw [IntKind.wrap_u64]; omega
set_option maxRecDepth 10000 in
set_option maxHeartbeats 1000000 in
theorem ones64 (x : Nat) (w : World) (hW : x < 2 ^ 64) :
    Calls Try.prog 79 #[.int .u64 x] w fun e w' => e = .returned (.int .i64 (cnt x.testBit 64)) ∧ w = w' := by
  obtain ⟨x1, x2, x3, x4, x5, x6, e1, b1, e2, b2, b2', e3, e4, b4, e5, b5, e6, b6, e7⟩ := pop_steps x hW
  have E7 := Lib.hid e7
  have b3 : x3 < 2 ^ 64 := by
    have : x3 ≤ x2 / 16 + x2 := by rw [← e3]; exact Nat.and_le_left
    omega
  have A1 : Hid (bits .and .u64 ((x : Int) / 2) 6148914691236517205 = _) := u64_and' (x / 2) 6148914691236517205 _ _ (by omega) rfl (by omega) (by omega)
  have A2 : Hid (bits .and .u64 (x : Int) 6148914691236517205 = _) := u64_and' x 6148914691236517205 _ _ rfl rfl (by omega) (by omega)
  have S1 : Hid (IntKind.u64.wrap (((x / 2 &&& 6148914691236517205 : Nat) : Int) + ((x &&& 6148914691236517205 : Nat) : Int)) = _) := wrap_u64' x1 _ (by rw [← Int.natCast_add, e1]) b1
  have A3 : Hid (bits .and .u64 ((x1 : Int) / 4) 3689348814741910323 = _) := u64_and' (x1 / 4) 3689348814741910323 _ _ (by omega) rfl (by omega) (by omega)
  have A4 : Hid (bits .and .u64 (x1 : Int) 3689348814741910323 = _) := u64_and' x1 3689348814741910323 _ _ rfl rfl (by omega) (by omega)
  have S2 : Hid (IntKind.u64.wrap (((x1 / 4 &&& 3689348814741910323 : Nat) : Int) + ((x1 &&& 3689348814741910323 : Nat) : Int)) = _) := wrap_u64' x2 _ (by rw [← Int.natCast_add, e2]) b2
  have S3 : Hid (IntKind.u64.wrap ((x2 : Int) / 16 + (x2 : Int)) = _) := wrap_u64' (x2 / 16 + x2) _ (by omega) b2'
  have A5 : Hid (bits .and .u64 ((x2 / 16 + x2 : Nat) : Int) 1085102592571150095 = (x3 : Int)) := by
    have : bits .and .u64 ((x2 / 16 + x2 : Nat) : Int) 1085102592571150095 = (((x2 / 16 + x2) &&& 1085102592571150095 : Nat) : Int) := u64_and' (x2 / 16 + x2) 1085102592571150095 _ _ rfl rfl b2' (by omega)
    rw [e3] at this
    exact this
  have S4 : Hid (IntKind.u64.wrap ((x3 : Int) + (x3 : Int) / 256) = _) := wrap_u64' x4 _ (by omega) b4
  have S5 : Hid (IntKind.u64.wrap ((x4 : Int) + (x4 : Int) / 65536) = _) := wrap_u64' x5 _ (by omega) b5
  have S6 : Hid (IntKind.u64.wrap ((x5 : Int) + (x5 : Int) / 4294967296) = _) := wrap_u64' x6 _ (by omega) (by omega)
  have W6 : Hid (wrap64 (x6 : Int) = x6) := wrap64_in b6
  have A6 : Hid (bits .and .i64 (x6 : Int) 127 = (cnt x.testBit 64 : Int)) := by
    have : bits .and .i64 (x6 : Int) 127 = ((x6 &&& 127 : Nat) : Int) := i64_and x6 127 b6 (by omega)
    rw [nat_mask7, e7] at this
    exact this
  clear e1 e2 e3 e4 e5 e6 e7 b1 b2 b2' b3 b4 b5 b6
  go_enter Try.func79, Try.ntmps79
  go_wp2
  go_ret
  refine ⟨ret_int ?_, rfl⟩
  rw [A1.out, A2.out, S1.out, A3.out, A4.out, S2.out, S3.out, A5.out, S4.out, S5.out, S6.out, W6.out, A6.out]
set_option maxRecDepth 10000 in
theorem wordOnes_any (x : Nat) (w : World) (hW : x < 2 ^ 64) :
    Calls Try.prog 73 #[.int .u64 x] w fun e w' => e = .returned (.int .i64 (cnt x.testBit 64)) ∧ w = w' := by
  go_enter Try.func73, Try.ntmps73
  go_wp2_with (go_at_call 79; refine (ones64 x _ hW).mono ?_; rintro e w' ⟨rfl, rfl⟩)
  go_ret
  exact ⟨rfl, rfl⟩
end Go.Proofs.Ytnmhiagnmfpipaa
