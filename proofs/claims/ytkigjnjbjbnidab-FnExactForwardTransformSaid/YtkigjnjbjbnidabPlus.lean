/-
  What adding two packed lists and counting the ones of a packed list answer. Condition: the words are below 2^64.
-/
import Derived.Test.YtkigjnjbjbnidabOnes
import Derived.RegionTactic
import Derived.BigRegion
import Derived.Deep.MidRow
namespace Go.Proofs.Ytkigjnjbjbnidab
open Go.RowKit

theorem isPack_xor {cur : Array Value} {P Q : Nat → Nat} {n k : Nat} (h : IsPack cur (fun j => if j < k then P j ^^^ Q j else P j) n) (hk : k < 16) :
    IsPack (cur.setIfInBounds k (.int .u64 (P k ^^^ Q k : Nat))) (fun j => if j < k + 1 then P j ^^^ Q j else P j) n := by
  have h1 := isPack_set h hk (P k ^^^ Q k)
  refine ⟨h1.1, fun i hi => ?_, h1.2.2⟩
  rw [h1.2.1 i hi]
  by_cases e : i = k
  · subst e; simp
  · by_cases e2 : i < k
    · simp [e, e2, show i < k + 1 by omega]
    · simp [e, e2, show ¬ i < k + 1 by omega]
theorem heap_prev3 (w : World) (A B C : Obj) : (((w.alloc A).alloc B).alloc C).heap[w.heap.size]? = some A := by
  rw [Below.heap_alloc _ _ _ (by simp; omega)]; exact heap_prev2 w A B
theorem heap_mid3 (w : World) (A B C : Obj) : (((w.alloc A).alloc B).alloc C).heap[w.heap.size + 1]? = some B := by
  rw [Below.heap_alloc _ _ _ (by simp)]; exact heap_last2 w A B
theorem heap_last3 (w : World) (A B C : Obj) : (((w.alloc A).alloc B).alloc C).heap[w.heap.size + 1 + 1]? = some C := by
  have := heap_last2 (w.alloc A) B C
  simpa using this
def onesSum (P : Nat → Nat) : Nat → Nat
  | 0 => 0
  | n + 1 => onesSum P n + cnt (P n).testBit 64
theorem onesSum_le (P : Nat → Nat) (n : Nat) : onesSum P n ≤ 64 * n := by
  induction n with
  | zero => simp [onesSum]
  | succ n ih => simp only [onesSum]; have := cnt_le (P n).testBit 64; omega
end Go.Proofs.Ytkigjnjbjbnidab
