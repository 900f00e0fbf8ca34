/-
  Distances and sums of lists of bits: plain mathematics. Conditions: both lists are valid and equally long, where a lemma says so.
-/
import Derived.Test.YtnmhiagnmfpipaaOne
namespace Go.Proofs.Ytnmhiagnmfpipaa

def zeros (n : Nat) : List Int := List.replicate n 0
theorem zeros_length (n : Nat) : (zeros n).length = n := by simp [zeros]
theorem zeros_el (n i : Nat) : el (zeros n) i = 0 := by
  unfold el zeros
  by_cases h : i < n
  · simp [h]
  · simp [h]
theorem bitsOk_of {xs : List Int} (hl : xs.length ≤ 1024) (h : ∀ i, i < xs.length → el xs i = 0 ∨ el xs i = 1) : bitsOk xs = true := by
  simp only [bitsOk, Bool.and_eq_true, decide_eq_true_eq, List.all_eq_true]
  refine ⟨hl, fun x hx => ?_⟩
  obtain ⟨i, hi, rfl⟩ := List.getElem_of_mem hx
  have := h i hi
  rw [el_lt hi] at this
  simpa [isBit] using this
theorem zeros_ok {n : Nat} (h : n ≤ 1024) : bitsOk (zeros n) = true := bitsOk_of (by rw [zeros_length]; exact h) (fun i _ => .inl (zeros_el n i))
theorem sumBits_length (xs ys : List Int) : (sumBits xs ys).length = xs.length := bitList_length _ _
theorem sumBits_el (xs ys : List Int) (j : Nat) (h : j < xs.length) : el (sumBits xs ys) j = if xorF xs ys j then 1 else 0 := bitList_el _ _ _ h
theorem sumBits_ok {xs ys : List Int} (h : xs.length ≤ 1024) : bitsOk (sumBits xs ys) = true := bitsOk_of (by rw [sumBits_length]; exact h) (fun i hi => by
  rw [sumBits_length] at hi
  rw [sumBits_el _ _ _ hi]
  split <;> simp)
theorem list_ext {xs ys : List Int} (hl : xs.length = ys.length) (h : ∀ i, i < xs.length → el xs i = el ys i) : xs = ys := by
  apply List.ext_getElem hl
  intro i h1 h2
  have := h i h1
  rwa [el_lt h1, el_lt h2] at this
theorem cnt_zero {F : Nat → Bool} {n : Nat} (h : cnt F n = 0) : ∀ i, i < n → F i = false := by
  induction n with
  | zero => intro i hi; omega
  | succ n ih =>
    simp only [cnt] at h
    intro i hi
    by_cases e : i = n
    · subst e
      cases hf : F i
      · rfl
      · rw [hf] at h; simp at h
    · exact ih (by omega) i (by omega)
theorem cnt_add_le {F G H : Nat → Bool} {n : Nat} (h : ∀ i, i < n → (F i).toNat ≤ (G i).toNat + (H i).toNat) : cnt F n ≤ cnt G n + cnt H n := by
  induction n with
  | zero => simp [cnt]
  | succ n ih =>
    simp only [cnt]
    have := ih (fun i hi => h i (by omega))
    have := h n (by omega)
    omega
theorem xorF_at {xs ys : List Int} {j : Nat} (hj : j < xs.length) : xorF xs ys j = (decide (el xs j = 1) != decide (el ys j = 1)) := by simp [xorF, bitsF, hj]
theorem xorF_iff {xs ys : List Int} (h : pairOk xs ys = true) {j : Nat} (hj : j < xs.length) : xorF xs ys j = false ↔ el xs j = el ys j := by
  obtain ⟨h1, h2, h3⟩ := pairOk_parts h
  rw [xorF_at hj]
  rcases bit_cases h1 hj with a | a <;> rcases bit_cases h2 (k := j) (by omega) with b | b <;> simp [a, b]
theorem pairOk_comm (xs ys : List Int) : pairOk ys xs = pairOk xs ys := by
  rw [Bool.eq_iff_iff]
  simp only [pairOk, Bool.and_eq_true, decide_eq_true_eq]
  exact ⟨fun ⟨⟨a, b⟩, c⟩ => ⟨⟨b, a⟩, c.symm⟩, fun ⟨⟨a, b⟩, c⟩ => ⟨⟨b, a⟩, c.symm⟩⟩
theorem dist_comm {xs ys : List Int} (h : xs.length = ys.length) : dist ys xs = dist xs ys := by
  unfold dist
  rw [← h]
  exact cnt_congr fun i hi => by rw [xorF_at (xs := ys) (by omega), xorF_at hi, bne_comm]
theorem distOr_comm (xs ys : List Int) : distOr ys xs = distOr xs ys := by
  unfold distOr
  rw [pairOk_comm]
  split
  · next h => rw [dist_comm (pairOk_parts h).2.2]
  · rfl
theorem dist_zero {xs ys : List Int} (h : pairOk xs ys = true) : dist xs ys = 0 ↔ xs = ys := by
  constructor
  · intro hd
    exact list_ext (pairOk_parts h).2.2 fun i hi => (xorF_iff h hi).1 (cnt_zero hd i hi)
  · intro e
    subst e
    exact cnt_false fun i hi => (xorF_iff h hi).2 rfl
theorem dist_sum {xs ys : List Int} : dist (sumBits xs ys) (zeros xs.length) = dist xs ys := by
  unfold dist
  rw [sumBits_length]
  refine cnt_congr fun i hi => ?_
  rw [xorF_at (by rw [sumBits_length]; exact hi), sumBits_el _ _ _ hi, zeros_el]
  cases xorF xs ys i <;> simp
theorem pair_sum {xs ys : List Int} (h : xs.length ≤ 1024) : pairOk (sumBits xs ys) (zeros xs.length) = true := by
  simp [pairOk, sumBits_ok h, zeros_ok h, sumBits_length, zeros_length]
theorem dist_triangle {xs ys zs : List Int} (h1 : xs.length = ys.length) (h2 : xs.length = zs.length) : dist xs ys ≤ dist xs zs + dist zs ys := by
  unfold dist
  rw [← h2]
  refine cnt_add_le fun i hi => ?_
  rw [xorF_at hi, xorF_at hi, xorF_at (xs := zs) (by omega)]
  cases decide (el xs i = 1) <;> cases decide (el ys i = 1) <;> cases decide (el zs i = 1) <;> simp
theorem distOr_ok {xs ys : List Int} (h : pairOk xs ys = true) : distOr xs ys = (dist xs ys : Int) := by simp [distOr, h]
theorem distOr_no {xs ys : List Int} (h : pairOk xs ys = false) : distOr xs ys = -1 := by simp [distOr, h]
theorem dist_le (xs ys : List Int) : dist xs ys ≤ xs.length := cnt_le _ _
/-- Adding the second list again returns the first one; a list added to itself is zeros; the sum does not depend on the order. -/
theorem sum_back {xs ys : List Int} (h : pairOk xs ys = true) : sumBits (sumBits xs ys) ys = xs := by
  obtain ⟨h1, h2, h3⟩ := pairOk_parts h
  refine list_ext (by rw [sumBits_length, sumBits_length]) fun i hi => ?_
  rw [sumBits_length, sumBits_length] at hi
  rw [sumBits_el _ _ _ (by rw [sumBits_length]; exact hi), xorF_at (by rw [sumBits_length]; exact hi), sumBits_el _ _ _ hi, xorF_at hi]
  rcases bit_cases h1 hi with a | a <;> rcases bit_cases h2 (k := i) (by omega) with b | b <;> simp [a, b]
theorem sum_self (xs : List Int) : sumBits xs xs = zeros xs.length := by
  refine list_ext (by rw [sumBits_length, zeros_length]) fun i hi => ?_
  rw [sumBits_length] at hi
  rw [sumBits_el _ _ _ hi, xorF_at hi, zeros_el]
  simp
theorem sum_comm {xs ys : List Int} (h : xs.length = ys.length) : sumBits ys xs = sumBits xs ys := by
  refine list_ext (by rw [sumBits_length, sumBits_length, h]) fun i hi => ?_
  rw [sumBits_length] at hi
  rw [sumBits_el _ _ _ hi, sumBits_el _ _ _ (by omega), xorF_at hi, xorF_at (xs := xs) (by omega), bne_comm]
theorem sumOr_comm (xs ys : List Int) : sumOr ys xs = sumOr xs ys := by
  unfold sumOr
  rw [pairOk_comm]
  split
  · next h => rw [sum_comm (pairOk_parts h).2.2]
  · rfl
theorem reverse_ok {xs : List Int} (h : bitsOk xs = true) : bitsOk xs.reverse = true := by
  simpa [bitsOk] using h
end Go.Proofs.Ytnmhiagnmfpipaa
