/-
  What adding two packed lists and counting the ones of a packed list answer. Condition: the words are below 2^64.
-/
import Derived.Test.YtflplihhakepfabOnes
import Derived.RegionTactic
import Derived.BigRegion
import Derived.Deep.MidRow
namespace Go.Proofs.Ytflplihhakepfab
open Go.RowKit

theorem isPack_xor {cur : Array Value} {P Q : Nat → Nat} {n k : Nat} (h : IsPack cur (fun j => if j < k then P j ^^^ Q j else P j) n) (hk : k < 16) :
    IsPack (cur.setIfInBounds k (.int .u64 (P k ^^^ Q k : Nat))) (fun j => if j < k + 1 then P j ^^^ Q j else P j) n := by
  have h1 := isPack_set h hk (P k ^^^ Q k)
  refine ⟨h1.1, fun i hi => ?_, h1.2.2⟩
  rw [h1.2.1 i hi]
  by_cases e : i = k
  · subst e; simp
  · by_cases e2 : i < k
    · simp [e, e2, show i < k + 1 by omega]
    · simp [e, e2, show ¬ i < k + 1 by omega]
theorem heap_prev3 (w : World) (A B C : Obj) : (((w.alloc A).alloc B).alloc C).heap[w.heap.size]? = some A := by
  rw [Below.heap_alloc _ _ _ (by simp; omega)]; exact heap_prev2 w A B
theorem heap_mid3 (w : World) (A B C : Obj) : (((w.alloc A).alloc B).alloc C).heap[w.heap.size + 1]? = some B := by
  rw [Below.heap_alloc _ _ _ (by simp)]; exact heap_last2 w A B
theorem heap_last3 (w : World) (A B C : Obj) : (((w.alloc A).alloc B).alloc C).heap[w.heap.size + 1 + 1]? = some C := by
  have := heap_last2 (w.alloc A) B C
  simpa using this
def PlusRel (cs' : Array Value) (P Q : Nat → Nat) (n : Nat) (w : World) (k : Nat) (wr : World) : Prop :=
  (∃ cur, wr.heap[w.heap.size]? = some (.cells cur 33 (0, 0)) ∧ IsPack cur (fun j => if j < k then P j ^^^ Q j else P j) n) ∧
  wr.heap[w.heap.size + 1]? = some (.cells cs' 33 (0, 0)) ∧
  (∃ cs, wr.heap[w.heap.size + 1 + 1]? = some (.cells cs 33 (0, 0)) ∧ cs.size = 17) ∧ Below w.heap.size w wr
theorem plusRel_step {cs' cur cs2 : Array Value} {P Q : Nat → Nat} {n k : Nat} {w wr : World} (hk : k < 16)
    (hb0 : wr.heap[w.heap.size]? = some (.cells cur 33 (0, 0))) (hcur : IsPack cur (fun j => if j < k then P j ^^^ Q j else P j) n)
    (hb1 : wr.heap[w.heap.size + 1]? = some (.cells cs' 33 (0, 0))) (hb2 : wr.heap[w.heap.size + 1 + 1]? = some (.cells cs2 33 (0, 0))) (hs2 : cs2.size = 17) (hbel : Below w.heap.size w wr) :
    PlusRel cs' P Q n w (k + 1) (wr.setCell ⟨w.heap.size, k, none⟩ (.int .u64 (P k ^^^ Q k : Nat))).drew := by
  refine ⟨⟨_, ?_, isPack_xor hcur hk⟩, ?_, ⟨cs2, ?_, hs2⟩, (hbel.setCell (Nat.le_refl _) _).drew⟩
  · show (wr.setCell _ _).heap[_]? = _
    rw [setCell_eq_setRow wr w.heap.size k cur _ _ _ hb0]
    exact setRow_heap _ _ _ _ _ _ hb0
  · show (wr.setCell _ _).heap[_]? = _
    rw [Below.heap_setCell _ _ _ _ (by show w.heap.size + 1 ≠ w.heap.size; omega)]; exact hb1
  · show (wr.setCell _ _).heap[_]? = _
    rw [Below.heap_setCell _ _ _ _ (by show w.heap.size + 1 + 1 ≠ w.heap.size; omega)]; exact hb2
theorem sizeWord : (Try.prog.info? 30).map (·.size) = some 1 := by kernel_rfl
theorem sizeWords : (Try.prog.info? 31).map (·.size) = some 16 := by kernel_rfl
theorem run_index_word (arr : Array Value) (x k : Nat) (w : World) (hk : k < 16) (h : arr[k]? = some (.int .u64 x)) :
    (Instr.index 31 (.agg arr) (.int .i64 k)).run Try.prog w = .ok (.int .u64 x) w := by
  cases hq : Try.prog.info? 30 with
  | none => have := sizeWord; simp [hq] at this
  | some i =>
    have hs : i.size = 1 := by have := sizeWord; simpa [hq] using this
    simp [Instr.index, asIntOf, run_underlying Try.underlying31, hk, sizeOf, typeInfo, hq, hs, part, isAgg, run_underlying Try.underlying30, h]
def onesSum (P : Nat → Nat) : Nat → Nat
  | 0 => 0
  | n + 1 => onesSum P n + cnt (P n).testBit 64
theorem onesSum_le (P : Nat → Nat) (n : Nat) : onesSum P n ≤ 64 * n := by
  induction n with
  | zero => simp [onesSum]
  | succ n ih => simp only [onesSum]; have := cnt_le (P n).testBit 64; omega
end Go.Proofs.Ytflplihhakepfab
