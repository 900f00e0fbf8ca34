/-
  What counting the ones of a word answers. Condition: the word is below 2^64.
-/
import Derived.Test.YtkigjnjbjbnidabPop
import Derived.Test.YtkigjnjbjbnidabPack
namespace Go.Proofs.Ytkigjnjbjbnidab
open Go.RowKit

theorem i64_and (a b : Nat) (ha : a < 2 ^ 63) (hb : b < 2 ^ 63) : bits .and .i64 (a : Int) (b : Int) = ((a &&& b : Nat) : Int) := by
  have hof : ∀ n : Nat, n < 2 ^ 63 → (BitVec.ofInt 64 (n : Int)).toNat = n := fun n hn => by
    rw [BitVec.ofInt_natCast, BitVec.toNat_ofNat]; exact Nat.mod_eq_of_lt (by omega)
  have hle : a &&& b ≤ a := Nat.and_le_left
  show IntKind.i64.wrap ((BitVec.ofInt 64 (a : Int) &&& BitVec.ofInt 64 (b : Int)).toNat : Int) = _
  rw [BitVec.toNat_and, hof a ha, hof b hb, IntKind.wrap_i64]
  generalize a &&& b = q at hle
  omega
theorem u64_and' (a b : Nat) (A B : Int) (hA : A = a) (hB : B = b) (ha : a < 2 ^ 64) (hb : b < 2 ^ 64) : bits .and .u64 A B = ((a &&& b : Nat) : Int) := by
  subst hA hB; exact u64_and_nat a b (by omega) (by omega)
theorem wrap64_in {n : Nat} (h : n < 2 ^ 63) : wrap64 (n : Int) = n := by
  unfold wrap64
  omega
theorem wrap_u64' (n : Nat) (A : Int) (hA : A = n) (h : n < 2 ^ 64) : IntKind.u64.wrap A = (n : Int) := by
  subst hA; rw [IntKind.wrap_u64]; omega
end Go.Proofs.Ytkigjnjbjbnidab
