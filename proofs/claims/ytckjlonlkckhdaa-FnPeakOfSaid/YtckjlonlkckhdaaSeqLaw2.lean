/-
  The laws of FilterSequence, walked: they return true for every code, and write into nothing that was there. No condition.
-/
import Derived.Test.YtckjlonlkckhdaaSeqLaw1
namespace Go.Proofs.Ytckjlonlkckhdaa
open Go.RowKit

theorem Ints.dropQ {k : IntKind} {w : World} {B b m : Nat} {xs : List Int} (h : Ints k w B (some ⟨b, 0, none⟩) xs) : Ints k w B (some ⟨b, m, none⟩) (xs.drop m) := fun hne => by
  have hne' : xs ≠ [] := by intro e; subst e; simp at hne
  obtain ⟨b1, off, e, hb, hc⟩ := h hne'
  injection e with e
  injection e with e1 e2
  subst e1 e2
  refine ⟨b, m, rfl, hb, fun i hi => ?_⟩
  have hi2 : m + i < xs.length := by simp at hi; omega
  have := hc (m + i) hi2
  rw [Nat.zero_add] at this
  rw [this]
  simp [el, List.getElem?_drop]
theorem fltOr_comm (xs ys : List Int) : fltOr ys xs = fltOr xs ys := by
  by_cases hc : seqOk xs = true ∧ seqOk ys = true ∧ 0 < xs.length ∧ 0 < ys.length
  · rw [fltOr_yes hc.1 hc.2.1 hc.2.2.1 hc.2.2.2, fltOr_yes hc.2.1 hc.1 hc.2.2.2 hc.2.2.1, cvL_comm hc.2.2.2 hc.2.2.1]
  · rw [fltOr_no hc, fltOr_no fun h => hc ⟨h.2.1, h.1, h.2.2.2, h.2.2.1⟩]
theorem alloc_below (w : World) (o : Obj) : Below w.heap.size w (w.alloc o) := (Below.refl _ _).alloc (Nat.le_refl _) o
theorem alive_from {w W : World} (hB : Below w.heap.size w W) : Calls Try.prog 15 #[] W fun e w' => e = .returned (.bool true) ∧ Below w.heap.size w w' := (alive_any W).mono fun _ _ ⟨h1, h2⟩ => ⟨h1, Below.next hB (Nat.le_refl _) h2⟩
theorem seqOk_one : seqOk [1] = true := by decide
theorem seqOk_delay : seqOk [0, 1] = true := by decide
theorem seqOk_121 : seqOk [1, -2, 1] = true := by decide
/-- What becomes of two lists that can be filtered. -/
theorem flt_facts {xs ys : List Int} (h : (fltOr xs ys).length ≠ 0) : sumL (fltOr xs ys) = sumL xs * sumL ys ∧ fltOr xs [1] = xs := by
  obtain ⟨h1, h2, h3, h4⟩ := fltOr_pos h
  exact ⟨by rw [fltOr_yes h1 h2 h3 h4, cvL_sum h3 h4], by rw [fltOr_yes h1 seqOk_one h3 (by decide), cvL_one h3]⟩
theorem sum_in {xs : List Int} {M : Int} (h : ∀ i, -M ≤ el xs i ∧ el xs i ≤ M) (k : Nat) (hM : 0 ≤ M) (hk : k ≤ 127) : -(127 * M) ≤ sqS (el xs) k ∧ sqS (el xs) k ≤ 127 * M := by
  have h1 := sqS_bound (f := el xs) (M := M) (n := k) fun i _ => h i
  have h2 : (k : Int) * M ≤ 127 * M := Int.mul_le_mul_of_nonneg_right (by omega) hM
  omega
theorem flt_el {xs ys : List Int} (i : Nat) : -1000000000 ≤ el (fltOr xs ys) i ∧ el (fltOr xs ys) i ≤ 1000000000 := by
  by_cases hc : seqOk xs = true ∧ seqOk ys = true ∧ 0 < xs.length ∧ 0 < ys.length
  · rw [fltOr_yes hc.1 hc.2.1 hc.2.2.1 hc.2.2.2]
    by_cases hi : i < (cvL xs ys).length
    · rw [cvL_el hc.2.2.1]
      rw [cvL_length] at hi
      have := seqOk_len hc.1
      have := seqOk_len hc.2.1
      exact cvF_in hc.1 hc.2.1 i (by omega)
    · rw [el_out (by omega)]; omega
  · rw [fltOr_no hc]
    rw [el_out (xs := []) (Nat.zero_le _)]; omega
/-- One round of a sum. -/
theorem sum_round {xs : List Int} {M : Int} (h : ∀ i, -M ≤ el xs i ∧ el xs i ≤ M) (hM : 0 ≤ M ∧ M ≤ 1000000000) {k : Nat} (hk : k + 1 ≤ 127) : ∃ p q s : Int, p = sqS (el xs) k ∧ q = el xs k ∧ s = p + q ∧ s = sqS (el xs) (k + 1) ∧ (-1000000000000 ≤ s ∧ s ≤ 1000000000000) := by
  have := sum_in h (k + 1) hM.1 hk
  exact ⟨_, _, _, rfl, rfl, rfl, rfl, by rw [show sqS (el xs) k + el xs k = sqS (el xs) (k + 1) from rfl]; omega⟩

theorem ints_lit {w : World} {b : Nat} {t : TypeId} {cs : Array Value} {xs : List Int} (h : w.heap[b]? = some (.cells cs t (0, 0))) (hcs : ∀ i, i < xs.length → cs[i]? = some (.int .i64 (el xs i))) : Ints .i64 w w.heap.size (some ⟨b, 0, none⟩) xs := fun _ =>
  ⟨b, 0, rfl, (Array.getElem?_eq_some_iff.1 h).1, fun i hi => by rw [Nat.zero_add, cell_of_row _ _ _ _ _ _ h]; exact hcs i hi⟩
theorem ints_121 (w : World) : Ints .i64 (w.alloc (.cells #[.int .i64 1, .int .i64 (-2), .int .i64 1] 3)) (w.heap.size + 1) (some ⟨w.heap.size, 0, none⟩) [1, -2, 1] := by
  have h := ints_lit (xs := [1, -2, 1]) (heap_alloc_last w (.cells #[.int .i64 1, .int .i64 (-2), .int .i64 1] 3)) fun i hi => by
    have h3 : i < 3 := hi
    match i, h3 with
    | 0, _ | 1, _ | 2, _ => rfl
  simpa using h
theorem ints_01 (w : World) : Ints .i64 (w.alloc (.cells #[.int .i64 0, .int .i64 1] 3)) (w.heap.size + 1) (some ⟨w.heap.size, 0, none⟩) [0, 1] := by
  have h := ints_lit (xs := [0, 1]) (heap_alloc_last w (.cells #[.int .i64 0, .int .i64 1] 3)) fun i hi => by
    have h3 : i < 2 := hi
    match i, h3 with
    | 0, _ | 1, _ => rfl
  simpa using h
theorem flt_groups {xs ys : List Int} (h1 : (fltOr xs ys).length ≠ 0) (h2 : (fltOr ys [1, -2, 1]).length ≠ 0) (h3 : seqOk (fltOr xs ys) = true) (h4 : seqOk (fltOr ys [1, -2, 1]) = true) :
    fltOr (fltOr xs ys) [1, -2, 1] = fltOr xs (fltOr ys [1, -2, 1]) := by
  obtain ⟨a1, a2, a3, a4⟩ := fltOr_pos h1
  rw [fltOr_yes h3 seqOk_121 (by omega) (by decide), fltOr_yes a1 h4 a3 (by omega), fltOr_yes a1 a2 a3 a4, fltOr_yes a2 seqOk_121 a4 (by decide), cvL_assoc a3 a4 (by decide)]
theorem flt_delay {xs : List Int} (h : (fltOr xs [0, 1]).length ≠ 0) : fltOr xs [0, 1] = 0 :: xs ∧ 0 < xs.length := by
  obtain ⟨a1, a2, a3, a4⟩ := fltOr_pos h
  exact ⟨by rw [fltOr_yes a1 a2 a3 a4, cvL_delay a3], a3⟩

end Go.Proofs.Ytckjlonlkckhdaa
