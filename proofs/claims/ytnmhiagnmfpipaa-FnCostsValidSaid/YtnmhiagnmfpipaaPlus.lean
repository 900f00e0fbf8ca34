/-
  What adding two packed lists and counting the ones of a packed list answer. Condition: the words are below 2^64.
-/
import Derived.Test.YtnmhiagnmfpipaaOnes
import Derived.RegionTactic
import Derived.BigRegion
import Derived.Deep.MidRow
namespace Go.Proofs.Ytnmhiagnmfpipaa
open Go.RowKit

theorem isPack_xor {cur : Array Value} {P Q : Nat → Nat} {n k : Nat} (h : IsPack cur (fun j => if j < k then P j ^^^ Q j else P j) n) (hk : k < 16) :
    IsPack (cur.setIfInBounds k (.int .u64 (P k ^^^ Q k : Nat))) (fun j => if j < k + 1 then P j ^^^ Q j else P j) n := by
  have h1 := isPack_set h hk (P k ^^^ Q k)
  refine ⟨h1.1, fun i hi => ?_, h1.2.2⟩
  rw [h1.2.1 i hi]
  by_cases e : i = k
  · subst e; simp
  · by_cases e2 : i < k
    · simp [e, e2, show i < k + 1 by omega]
    · simp [e, e2, show ¬ i < k + 1 by omega]
theorem heap_prev3 (w : World) (A B C : Obj) : (((w.alloc A).alloc B).alloc C).heap[w.heap.size]? = some A := by
  rw [Below.heap_alloc _ _ _ (by simp; omega)]; exact heap_prev2 w A B
theorem heap_mid3 (w : World) (A B C : Obj) : (((w.alloc A).alloc B).alloc C).heap[w.heap.size + 1]? = some B := by
  rw [Below.heap_alloc _ _ _ (by simp)]; exact heap_last2 w A B
theorem heap_last3 (w : World) (A B C : Obj) : (((w.alloc A).alloc B).alloc C).heap[w.heap.size + 1 + 1]? = some C := by
  have := heap_last2 (w.alloc A) B C
  simpa using this
def PlusRel (cs' : Array Value) (P Q : Nat → Nat) (n : Nat) (w : World) (k : Nat) (wr : World) : Prop :=
  (∃ cur, wr.heap[w.heap.size]? = some (.cells cur 75 (0, 0)) ∧ IsPack cur (fun j => if j < k then P j ^^^ Q j else P j) n) ∧
  wr.heap[w.heap.size + 1]? = some (.cells cs' 75 (0, 0)) ∧
  (∃ cs, wr.heap[w.heap.size + 1 + 1]? = some (.cells cs 75 (0, 0)) ∧ cs.size = 17) ∧ Below w.heap.size w wr
set_option maxRecDepth 10000 in
theorem plusRel_step {cs' cur cs2 : Array Value} {P Q : Nat → Nat} {n k : Nat} {w wr : World} (hk : k < 16)
    (hb0 : wr.heap[w.heap.size]? = some (.cells cur 75 (0, 0))) (hcur : IsPack cur (fun j => if j < k then P j ^^^ Q j else P j) n)
    (hb1 : wr.heap[w.heap.size + 1]? = some (.cells cs' 75 (0, 0))) (hb2 : wr.heap[w.heap.size + 1 + 1]? = some (.cells cs2 75 (0, 0))) (hs2 : cs2.size = 17) (hbel : Below w.heap.size w wr) :
    PlusRel cs' P Q n w (k + 1) (wr.setCell ⟨w.heap.size, k, none⟩ (.int .u64 (P k ^^^ Q k : Nat))).drew := by
  refine ⟨⟨_, ?_, isPack_xor hcur hk⟩, ?_, ⟨cs2, ?_, hs2⟩, (hbel.setCell (Nat.le_refl _) _).drew⟩
  · show (wr.setCell _ _).heap[_]? = _
    rw [setCell_eq_setRow wr w.heap.size k cur _ _ _ hb0]
    exact setRow_heap _ _ _ _ _ _ hb0
  · show (wr.setCell _ _).heap[_]? = _
    rw [Below.heap_setCell _ _ _ _ (by show w.heap.size + 1 ≠ w.heap.size; omega)]; exact hb1
  · show (wr.setCell _ _).heap[_]? = _
    rw [Below.heap_setCell _ _ _ _ (by show w.heap.size + 1 + 1 ≠ w.heap.size; omega)]; exact hb2
set_option maxRecDepth 10000 in
set_option maxHeartbeats 1000000 in
theorem plus_any (cs cs' : Array Value) (P Q : Nat → Nat) (n m : Nat) (w : World) (hp : IsPack cs P n) (hq : IsPack cs' Q m) (hP : ∀ i, i < 16 → P i < 2 ^ 64) (hQ : ∀ i, i < 16 → Q i < 2 ^ 64) :
    Calls Try.prog 64 #[.agg cs, .agg cs'] w fun e w' => ∃ cs2, e = .returned (.agg cs2) ∧ IsPack cs2 (fun j => P j ^^^ Q j) n ∧ Below w.heap.size w w' := by
  have HP := Lib.hid hp
  have HQ := Lib.hid hq
  have HPb := Lib.hid hP
  have HQb := Lib.hid hQ
  clear hp hq hP hQ
  go_enter Try.func64, Try.ntmps64
  go_wp2
  go_loopw [6] (fun i wr => ∃ k : Nat, k ≤ 16 ∧ i = .int .i64 k ∧ PlusRel cs' P Q n w k wr) (fun i _ => 16 - (intOf i).toNat)
  case atStart =>
    refine ⟨0, by omega, rfl, ⟨cs, heap_prev3 _ _ _ _, ?_⟩, heap_mid3 _ _ _ _, ⟨_, heap_last3 _ _ _ _, rfl⟩, (((Below.refl _ _).alloc (Nat.le_refl _) _).alloc (by simp) _).alloc (by simp; omega) _⟩
    exact ⟨HP.out.1, fun i hi => by simpa using HP.out.2.1 i hi, HP.out.2.2⟩
  case round =>
    obtain ⟨k, hk, rfl, hrel⟩ := hrel
    obtain ⟨⟨cur, hb0, hcur⟩, hb1, ⟨cs2, hb2, hs2⟩, hbel⟩ := hrel
    have HB0 := Lib.hid hb0
    have HB1 := Lib.hid hb1
    have HB2 := Lib.hid hb2
    have HS2 := Lib.hid hs2
    have HC := Lib.hid hcur
    have HBe := Lib.hid hbel
    clear hb0 hb1 hb2 hs2 hcur hbel
    by_cases hlt : k < 16
    · have c0 : wr.cell? ⟨w.heap.size, k, none⟩ = some (.int .u64 (P k)) := by
        have := HC.out.2.1 k hlt
        simp only [Nat.lt_irrefl, if_false] at this
        rw [← this]; exact cell_of_row _ _ _ _ _ _ HB0.out
      have c1 : wr.cell? ⟨w.heap.size + 1, k, none⟩ = some (.int .u64 (Q k)) := by
        rw [← HQ.out.2.1 k hlt]; exact cell_of_row _ _ _ _ _ _ HB1.out
      have f0 : wr.frozen? ⟨w.heap.size, k, none⟩ = false := by
        have := HB0.out
        simp [World.frozen?, this]
      have hx : bits .xor .u64 (P k : Int) (Q k : Int) = ((P k ^^^ Q k : Nat) : Int) := u64_xor_nat _ _ (by have := HPb.out k hlt; omega) (by have := HQb.out k hlt; omega)
      have hi : (k : Int) < 16 := by omega
      go_wp2
      go_region
      all_goals
        go_wp2
        go_roundw
        case rel => exact ⟨k + 1, by omega, by go_num, plusRel_step hlt HB0.out HC.out HB1.out HB2.out HS2.out HBe.out⟩
        case measure => simp [intOf]; omega
    · obtain rfl : 16 = k := by omega
      have HC2 : Hid (IsPack cur (fun j => P j ^^^ Q j) n) := ⟨HC.out.1, fun i hi => by have := HC.out.2.1 i hi; simpa [hi] using this, HC.out.2.2⟩
      go_wp2_with (first | (refine load_pack (.tmp 2) w.heap.size cur HB0.out HC.out.1 rfl rfl rfl ?_) | (refine store_pack (.tmp 4) (.tmp 21) (w.heap.size + 1 + 1) cur cs2 HB2.out HC.out.1 HS2.out (pack_one HC.out) rfl rfl rfl rfl ?_))
      refine bodyPost_ret (results_cell_row (P := Try.prog) rfl _ _ (w.heap.size + 1 + 1) 75 cur (0, 0) _ rfl (setRow_heap _ _ _ _ _ _ HB2.out) Try.underlying75 rfl (by rw [infoPack, HC.out.1])) rfl ?_
      exact ⟨cur, rfl, HC2.out, below_setRow HBe.out (by omega) _⟩

set_option maxRecDepth 10000 in
theorem sizeWord : (Try.prog.info? 72).map (·.size) = some 1 := by kernel_rfl
set_option maxRecDepth 10000 in
theorem sizeWords : (Try.prog.info? 73).map (·.size) = some 16 := by kernel_rfl
set_option maxRecDepth 10000 in
theorem run_index_word (arr : Array Value) (x k : Nat) (w : World) (hk : k < 16) (h : arr[k]? = some (.int .u64 x)) :
    (Instr.index 73 (.agg arr) (.int .i64 k)).run Try.prog w = .ok (.int .u64 x) w := by
  cases hq : Try.prog.info? 72 with
  | none => have := sizeWord; simp [hq] at this
  | some i =>
    have hs : i.size = 1 := by have := sizeWord; simpa [hq] using this
    simp [Instr.index, asIntOf, run_underlying Try.underlying73, hk, sizeOf, typeInfo, hq, hs, part, isAgg, run_underlying Try.underlying72, h]
def onesSum (P : Nat → Nat) : Nat → Nat
  | 0 => 0
  | n + 1 => onesSum P n + cnt (P n).testBit 64
theorem onesSum_le (P : Nat → Nat) (n : Nat) : onesSum P n ≤ 64 * n := by
  induction n with
  | zero => simp [onesSum]
  | succ n ih => simp only [onesSum]; have := cnt_le (P n).testBit 64; omega
set_option maxRecDepth 10000 in
set_option maxHeartbeats 1000000 in
theorem ones_any (cs : Array Value) (P : Nat → Nat) (n : Nat) (w : World) (hp : IsPack cs P n) (hP : ∀ i, i < 16 → P i < 2 ^ 64) :
    Calls Try.prog 65 #[.agg cs] w fun e w' => e = .returned (.int .i64 (onesSum P 16)) ∧ Below w.heap.size w w' := by
  have HP := Lib.hid hp
  have HPb := Lib.hid hP
  clear hp hP
  obtain ⟨arr, ha, hs⟩ : ∃ arr : List Value, arr = cs.toList.take 16 ∧ arr.length = 16 := ⟨_, rfl, by simp [HP.out.1]⟩
  have hat : ∀ i, i < 16 → arr[i]? = some (.int .u64 (P i)) := fun i hi => by
    rw [ha, List.getElem?_take, if_pos hi]; simpa using HP.out.2.1 i hi
  have HR : Hid ((w.alloc (.cells cs 75)).rangeAt w.heap.size 0 arr) := fun j v hv => by
    have hj : j < 16 := by have := (List.getElem?_eq_some_iff.1 hv).1; omega
    rw [Nat.zero_add, cell_of_row _ _ _ _ _ _ (heap_alloc_last w _), HP.out.2.1 j hj, ← hat j hj, hv]
  have HI : Hid ((Try.prog.info? 73).map (·.size) = some arr.length) := by rw [hs]; exact sizeWords
  have HAt := Lib.hid hat
  clear ha hs hat
  go_enter Try.func65, Try.ntmps65
  go_wp2_with (refine wpList_load_mid rfl 73 (.tmp 6) rfl w.heap.size 0 rfl arr _ HR.out Try.underlying73 rfl HI.out ?_)
  go_loop [3, 8] (fun s i => ∃ k : Nat, k ≤ 16 ∧ i = .int .i64 k ∧ s = .int .i64 (onesSum P k)) (fun _ i => 16 - (intOf i).toNat)
  case atStart => exact ⟨0, by omega, rfl, rfl⟩
  case round =>
    obtain ⟨k, hk, rfl, rfl⟩ := hrel
    have hle := onesSum_le P k
    by_cases hlt : k < 16
    · have hix := fun W => run_index_word arr.toArray (P k) k W hlt (by simpa using HAt.out k hlt)
      have hcl := cnt_le (P k).testBit 64
      go_wp2_with (go_at_call 73; refine (wordOnes_any (P k) _ (HPb.out k hlt)).mono ?_; rintro e w' ⟨rfl, rfl⟩)
      go_round
      case rel => exact ⟨k + 1, by omega, by go_num, by simp only [onesSum]; go_num⟩
      case measure => simp [intOf]; omega
    · obtain rfl : 16 = k := by omega
      go_wp2
      go_ret
      exact ⟨rfl, (Below.refl _ _).alloc (Nat.le_refl _) _⟩
end Go.Proofs.Ytnmhiagnmfpipaa
