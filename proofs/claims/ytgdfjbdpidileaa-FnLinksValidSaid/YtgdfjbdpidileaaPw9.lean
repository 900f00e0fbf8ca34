/-
  What the sizes, copies, comparisons and marks of links answer. Conditions: the rows can be read; the copies and marks: at most 2^20 numbers in all.
-/
import Derived.Test.YtgdfjbdpidileaaPwOpen
import Derived.Test.YtgdfjbdpidileaaPw3
import Derived.Test.YtgdfjbdpidileaaBase
import Derived.Test.YtgdfjbdpidileaaOne
import Derived.Deep.RegionLaw
namespace Go.Proofs.Ytgdfjbdpidileaa
open Go.RowKit

/-- How many numbers the first k rows hold. -/
def tot (R : List (List Int)) : Nat → Nat
  | 0 => 0
  | k + 1 => tot R k + (rwI R k).length
theorem tot_le {R : List (List Int)} {i : Nat} : ∀ {k : Nat}, i ≤ k → tot R i ≤ tot R k
  | 0, h => by rw [Nat.le_zero.1 h]; exact Nat.le_refl _
  | k + 1, h => by
    rcases Nat.lt_or_ge i (k + 1) with h1 | h1
    · have := tot_le (R := R) (i := i) (k := k) (by omega)
      show tot R i ≤ tot R k + _
      omega
    · rw [Nat.le_antisymm h h1]; exact Nat.le_refl _
def SzOk (R : List (List Int)) : Prop := R.length + tot R R.length ≤ 1048576
theorem SzOk.row {R : List (List Int)} (h : SzOk R) {i : Nat} (hi : i < R.length) : (rwI R i).length ≤ 1048576 := by
  have h1 := tot_le (R := R) (i := i + 1) (k := R.length) hi
  have e : tot R (i + 1) = tot R i + (rwI R i).length := rfl
  unfold SzOk at h
  omega
/-- A copy of rows: k rows are copied, each into a block of its own. -/
structure CpR (W : World) (b0 : Nat) (R : List (List Int)) (k : Nat) (blk : Nat → Nat) : Prop where
  row : W.rowIs b0 29 R.length (fun i => if i < k then .slice (some ⟨blk i, 0, none⟩) (rwI R i).length (rwI R i).length else .slice none 0 0)
  at_ : ∀ i, i < k → b0 < blk i ∧ W.rowIs (blk i) 3 (rwI R i).length (fun j => .int .i64 (el (rwI R i) j))
  inc : ∀ i j, i < j → j < k → blk i < blk j
theorem CpR.next {W W' : World} {b0 k : Nat} {R : List (List Int)} {blk : Nat → Nat} (h : CpR W b0 R k blk) (hb : Below W.heap.size W W') : CpR W' b0 R k blk :=
  ⟨h.row.of_block (hb.block _ h.row.lt), fun i hi => ⟨(h.at_ i hi).1, (h.at_ i hi).2.of_block (hb.block _ (h.at_ i hi).2.lt)⟩, h.inc⟩
theorem CpR.step {W : World} {b0 k : Nat} {R : List (List Int)} {blk : Nat → Nat} {b : Nat} (h : CpR W b0 R k blk) (hr : W.rowIs b 3 (rwI R k).length (fun j => .int .i64 (el (rwI R k) j))) (h0 : b0 < b) (hi : ∀ i, i < k → blk i < b) :
    CpR (W.setCell ⟨b0, k, none⟩ (.slice (some ⟨b, 0, none⟩) (rwI R k).length (rwI R k).length)) b0 R (k + 1) (fun i => if i = k then b else blk i) := by
  have hg := Lib.grownBy_setCell W b0 k (.slice (some ⟨b, 0, none⟩) (rwI R k).length (rwI R k).length)
  refine ⟨(h.row.set k _).congr fun j hj => ?_, fun i him => ?_, fun i j hij hj => ?_⟩
  · by_cases e : j = k
    · subst e; simp
    · by_cases e2 : j < k
      · simp [e, e2, Nat.lt_succ_of_lt e2]
      · simp [e, e2, show ¬ j < k + 1 by omega]
  · by_cases e : i = k
    · subst e
      simp only [if_true]
      exact ⟨h0, hr.of_block (hg.block _ hr.lt (fun e => by injection e; omega))⟩
    · simp only [e, if_false]
      have h2 := h.at_ i (by omega)
      exact ⟨h2.1, h2.2.of_block (hg.block _ h2.2.lt (fun e => by injection e; omega))⟩
  · by_cases e : j = k
    · subst e
      simp only [if_true, show i ≠ j by omega, if_false]
      exact hi i hij
    · simp only [e, if_false, show i ≠ k by omega]
      exact h.inc i j hij (by omega)
theorem CpR.rows {W : World} {b0 : Nat} {R : List (List Int)} {blk : Nat → Nat} (h : CpR W b0 R R.length blk) (hl : ∀ i, i < R.length → (rwI R i).length ≤ 1048576) : RowsL W W.heap.size (some ⟨b0, 0, none⟩) R := fun _ => by
  refine ⟨b0, 0, rfl, h.row.lt, fun i hi => ?_⟩
  have h1 := h.row.cell hi
  rw [if_pos hi] at h1
  rw [Nat.zero_add]
  exact ⟨_, _, h1, Nat.le_refl _, Nat.le_trans (hl i hi) (by unfold maxLen; omega), ints_of_row (h.at_ i hi).2 rfl (h.at_ i hi).2.lt⟩
theorem Try.infoRow : (Try.prog.info? 29).map (fun i => (i.zero, i.size, i.bytes)) = some (some (.slice none 0 0), 1, 24) := by kernel_rfl
theorem makeRows (n : Nat) (hn : n ≤ 1048576) (w : World) : (Instr.makeSlice 23 (.int .i64 (n : Int)) (.int .i64 (n : Int))).run Try.prog w = .ok (.slice (some ⟨w.heap.size, 0, none⟩) n n) (w.alloc (.cells (madeCells #[.slice none 0 0] n) 29)) :=
  run_make_row' (P := Try.prog) 23 29 (.slice none 0 0) 24 Try.underlying23 Try.infoRow rfl .i64 .i64 n (by omega) (by omega) w
theorem cpR_made (w : World) (R : List (List Int)) : CpR (w.alloc (.cells (madeCells #[.slice none 0 0] R.length) 29)) w.heap.size R 0 (fun _ => 0) :=
  ⟨(World.rowIs_made w (.slice none 0 0) R.length 29).congr fun j _ => by simp, fun i hi => absurd hi (by omega), fun i j _ hj => absurd hj (by omega)⟩
end Go.Proofs.Ytgdfjbdpidileaa
