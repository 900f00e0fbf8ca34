/-
  The reader of a code, as the laws draw their inputs: what opening it and picking a number answer. Conditions: the number asked for is positive and below 2^40; fewer than 2^40 numbers were picked before.
-/
import Derived.Test.YtflplihhakepfabDoorPackBytes
import Derived.Test.YtflplihhakepfabDoorGrow
import Derived.Test.YtflplihhakepfabDoorOwn
import Derived.Test.YtflplihhakepfabDoorExact3
namespace Go.Proofs.YtflplihhakepfabDoor
open Go.RowKit

theorem i64_xor (a b : Nat) (ha : a < 2 ^ 63) (hb : b < 2 ^ 63) : bits .xor .i64 (a : Int) (b : Int) = ((a ^^^ b : Nat) : Int) := by
  have hof : ∀ n : Nat, n < 2 ^ 63 → (BitVec.ofInt 64 (n : Int)).toNat = n := fun n hn => by
    rw [BitVec.ofInt_natCast, BitVec.toNat_ofNat]; exact Nat.mod_eq_of_lt (by omega)
  have hlt : a ^^^ b < 2 ^ 63 := Nat.xor_lt_two_pow ha hb
  show IntKind.i64.wrap ((BitVec.ofInt 64 (a : Int) ^^^ BitVec.ofInt 64 (b : Int)).toNat : Int) = _
  rw [BitVec.toNat_xor, hof a ha, hof b hb, IntKind.wrap_i64]
  generalize a ^^^ b = q at hlt
  omega
theorem i64_in' {n : Nat} (h : n < 2 ^ 63) : IntKind.i64.wrap (n : Int) = n := by rw [IntKind.wrap_i64]; omega
end Go.Proofs.YtflplihhakepfabDoor
