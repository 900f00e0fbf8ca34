/-
  What unpacking a packed list answers, and the sums that counting gives. Condition: at most MaxBits bits.
-/
import Derived.Test.YtnjjblcigcblhaaDoorPlus
namespace Go.Proofs.YtnjjblcigcblhaaDoor
open Go.RowKit

/-- The list of the first n bits of f. -/
def bitList (f : Nat → Bool) (n : Nat) : List Int := (List.range n).map fun j => if f j then 1 else 0
theorem bitList_length (f : Nat → Bool) (n : Nat) : (bitList f n).length = n := by simp [bitList]
theorem bitList_el (f : Nat → Bool) (n j : Nat) (h : j < n) : el (bitList f n) j = if f j then 1 else 0 := by
  simp [el, bitList, h]
theorem bitOf_packed {P : Nat → Nat} {f : Nat → Bool} (h : Packed P f) {j : Nat} (hj : j < 1024) : bitOf (P (j / 64)) (j % 64) = if f j then 1 else 0 := by
  unfold bitOf; rw [h.2 j hj]

set_option maxHeartbeats 1000000 in
theorem list_any (cs : Array Value) (P : Nat → Nat) (f : Nat → Bool) (n : Nat) (w : World) (hp : IsPack cs P n) (hf : Packed P f) (hn : n ≤ 1024) :
    Calls Tryd.prog 42 #[.agg cs] w fun e w' => e = .returned (.slice (some ⟨w.heap.size + 1, 0, none⟩) n n) ∧
      w'.rowIs (w.heap.size + 1) 3 n (fun i => .int .i64 (el (bitList f n) i)) ∧ Below w.heap.size w w' := by
  have hmk := run_make_row' (P := Tryd.prog) 23 3 (.int .i64 0) 8 Tryd.underlying23 Tryd.infoInt rfl .i64 .i64 n (by omega) (by omega)
  have c16 : (w.alloc (.cells cs 54)).cell? ⟨w.heap.size, 16, none⟩ = some (.int .i64 n) := by
    rw [← hp.2.2]; exact cell_of_row _ _ _ _ _ _ (heap_alloc_last _ _)
  have HP := Lib.hid hp
  have HF := Lib.hid hf
  clear hp hf
  go_enter Tryd.func42, Tryd.ntmps42
  go_wp2
  clear hmk c16
  go_loopw [10] (fun i wr => ∃ k : Nat, k ≤ n ∧ i = .int .i64 k ∧ wr.heap[w.heap.size]? = some (.cells cs 54 (0, 0)) ∧
      wr.rowIs (w.heap.size + 1) 3 n (fun j => .int .i64 (if j < k then el (bitList f n) j else 0)) ∧ Below w.heap.size w wr) (fun i _ => n - (intOf i).toNat)
  case atStart =>
    refine ⟨0, Nat.zero_le _, rfl, (Below.heap_alloc _ _ _ (by simp)).trans (heap_alloc_last _ _), ?_, ((Below.refl _ _).alloc (Nat.le_refl _) _).alloc (by simp) _⟩
    have := World.rowIs_made (w.alloc (.cells cs 54)) (.int .i64 0) n 3
    rw [World.size_alloc] at this
    exact this.congr (by intro j hj; simp)
  case round =>
    obtain ⟨k, hk, rfl, hblk, hrow, hbel⟩ := hrel
    have HB := Lib.hid hblk
    have HBe := Lib.hid hbel
    clear hblk hbel
    by_cases hlt : k < n
    · have hf := hrow.frozen k
      have hcv : wr.cell? ⟨w.heap.size + 1, k, none⟩ = some (.int .i64 0) := by rw [hrow.cell hlt]; simp
      have hcw : wr.cell? ⟨w.heap.size, k / 64, none⟩ = some (.int .u64 (P (k / 64))) := by
        rw [← HP.out.2.1 (k / 64) (by omega)]; exact cell_of_row _ _ _ _ _ _ HB.out
      have hpb := HF.out.1 (k / 64) (by omega)
      have HE : Hid (bitOf (P (k / 64)) (k % 64) = el (bitList f n) k) := by
        rw [bitOf_packed HF.out (by omega), bitList_el _ _ _ hlt]; rfl
      have H1 := Lib.hid ((hrow.set k (.int .i64 (bitOf (P (k / 64)) (k % 64)))).congr (g := fun j => .int .i64 (if j < k + 1 then el (bitList f n) j else 0)) (by
        intro j hj
        by_cases e : j = k
        · subst e; simp [HE.out]
        · simp only [e, if_false]
          by_cases h2 : j < k
          · simp [h2, Nat.lt_succ_of_lt h2]
          · simp [h2, show ¬ j < k + 1 by omega]))
      have H2 := Lib.hid (HBe.out.setCell (p := ⟨w.heap.size + 1, k, none⟩) (by show w.heap.size ≤ w.heap.size + 1; omega) (.int .i64 (bitOf (P (k / 64)) (k % 64))))
      have H3 := Lib.hid ((Below.heap_setCell wr ⟨w.heap.size + 1, k, none⟩ (.int .i64 (bitOf (P (k / 64)) (k % 64))) w.heap.size (by show w.heap.size ≠ w.heap.size + 1; omega)).trans HB.out)
      clear hrow HE
      go_wp2_with (go_at_call 52; refine (bitAt_any (P (k / 64)) (k % 64) _ hpb (by omega)).mono ?_; rintro e w' ⟨rfl, rfl⟩)
      go_roundw
      case rel => exact ⟨k + 1, by omega, by go_num, H3.out, H1.out, H2.out⟩
      case measure => simp [intOf]; omega
    · have H1 := Lib.hid (hrow.congr (g := fun j => .int .i64 (el (bitList f n) j)) (by intro j hj; simp [show j < k by omega]))
      clear hrow
      go_wp2
      go_ret
      exact ⟨rfl, H1.out, HBe.out⟩
end Go.Proofs.YtnjjblcigcblhaaDoor
