/-
  Check bits of lists: plain mathematics: what passes, sums, shifts, bursts. Conditions: the polynomial is valid and the list has bits, where a lemma says so.
-/
import Derived.Test.YtflplihhakepfaaDoorCheck
namespace Go.Proofs.YtflplihhakepfaaDoor

/-- The lists that pass. -/
def passes (g : Int) (xs : List Int) : Bool := chkOk g xs && decide (deg g ≤ xs.length) && decide (pm g.toNat (deg g) (numOf xs) = 0)
theorem chkOk_parts {g : Int} {xs : List Int} (h : chkOk g xs = true) : bitsOk xs = true ∧ genOk g = true := by simpa [chkOk] using h
theorem passes_parts {g : Int} {xs : List Int} (h : passes g xs = true) : bitsOk xs = true ∧ genOk g = true ∧ deg g ≤ xs.length ∧ pm g.toNat (deg g) (numOf xs) = 0 := by
  simpa [passes, chkOk, and_assoc] using h
theorem passes_of {g : Int} {xs : List Int} (h1 : bitsOk xs = true) (h2 : genOk g = true) (h3 : deg g ≤ xs.length) (h4 : pm g.toNat (deg g) (numOf xs) = 0) : passes g xs = true := by
  simp [passes, chkOk, h1, h2, h3, h4]
theorem bitsOk_el {xs : List Int} (h : bitsOk xs = true) {j : Nat} (hj : j < xs.length) : el xs j = if bitsF xs xs.length j then 1 else 0 := by
  rcases bit_cases h hj with e | e <;> simp [bitsF, hj, e]
theorem el_take {xs : List Int} {m j : Nat} (h : j < m) : el (xs.take m) j = el xs j := by
  simp [el, h]
theorem el_drop {xs : List Int} {m j : Nat} : el (xs.drop m) j = el xs (m + j) := by
  simp [el]
theorem el_append_left {xs ys : List Int} {j : Nat} (h : j < xs.length) : el (xs ++ ys) j = el xs j := by
  simp [el, List.getElem?_append, h]
theorem el_append_right {xs ys : List Int} {j : Nat} : el (xs ++ ys) (xs.length + j) = el ys j := by
  unfold el
  rw [List.getD_eq_getElem?_getD, List.getD_eq_getElem?_getD, List.getElem?_append_right (by omega), Nat.add_sub_cancel_left]
theorem numOf_take {xs : List Int} {m : Nat} (h : m ≤ xs.length) : numOf (xs.take m) = numF (bitsF xs xs.length) m := by
  have hl : (xs.take m).length = m := by simp; omega
  unfold numOf
  rw [hl]
  refine numF_congr fun j hj => ?_
  simp [bitsF, hj, el_take hj, show j < xs.length by omega]
theorem numOf_append (xs ys : List Int) : numOf (xs ++ ys) = numOf xs * 2 ^ ys.length + numOf ys := by
  unfold numOf
  rw [List.length_append, numF_add]
  congr 1
  · congr 1
    refine numF_congr fun j hj => ?_
    simp [bitsF, hj, el_append_left hj, show j < xs.length + ys.length by omega]
  · refine numF_congr fun j hj => ?_
    simp [bitsF, hj, el_append_right]
theorem numOf_lt (xs : List Int) : numOf xs < 2 ^ xs.length := numF_lt _ _
theorem numOf_zeros (n : Nat) : numOf (zeros n) = 0 := numF_zero fun j _ => by simp [bitsF, zeros_el]
theorem numOf_bitList (f : Nat → Bool) (n : Nat) : numOf (bitList f n) = numF f n := by
  unfold numOf
  rw [bitList_length]
  refine numF_congr fun j hj => ?_
  unfold bitsF
  rw [bitList_el _ _ _ hj]
  cases f j <;> simp [hj]
theorem numOf_digits {r n : Nat} (h : r < 2 ^ n) : numOf (digits r n) = r := by
  unfold digits
  rw [numOf_bitList, numF_digits h]
theorem numOf_inj {xs ys : List Int} (h1 : bitsOk xs = true) (h2 : bitsOk ys = true) (hl : xs.length = ys.length) (h : numOf xs = numOf ys) : xs = ys := by
  refine list_ext hl fun i hi => ?_
  have h3 := congrArg (fun n => Nat.testBit n (xs.length - 1 - i)) h
  simp only [numOf] at h3
  rw [numF_test, numF_test, show xs.length - 1 - (xs.length - 1 - i) = i by omega, ← hl, show xs.length - 1 - (xs.length - 1 - i) = i by omega] at h3
  have h4 : xs.length - 1 - i < xs.length := by omega
  simp only [h4, decide_true, Bool.true_and] at h3
  rw [bitsOk_el h1 hi, bitsOk_el h2 (by omega), h3, hl]
theorem digits_ok (r n : Nat) (h : n ≤ 1024) : bitsOk (digits r n) = true := bitsOk_of (by rw [digits_length]; exact h) fun i hi => by
  rw [digits_length] at hi
  unfold digits
  rw [bitList_el _ _ _ hi]
  split <;> simp
theorem bitsOk_drop {xs : List Int} (h : bitsOk xs = true) (m : Nat) : bitsOk (xs.drop m) = true := by
  simp only [bitsOk, Bool.and_eq_true, decide_eq_true_eq, List.all_eq_true] at h ⊢
  exact ⟨by simp; omega, fun x hx => h.2 x (List.mem_of_mem_drop hx)⟩
theorem bitsOk_take' {xs : List Int} (h : bitsOk xs = true) (m : Nat) : bitsOk (xs.take m) = true := by
  simp only [bitsOk, Bool.and_eq_true, decide_eq_true_eq, List.all_eq_true] at h ⊢
  exact ⟨by simp; omega, fun x hx => h.2 x (List.mem_of_mem_take hx)⟩
theorem bitsOk_append {xs ys : List Int} (h1 : bitsOk xs = true) (h2 : bitsOk ys = true) (hl : xs.length + ys.length ≤ 1024) : bitsOk (xs ++ ys) = true := by
  simp only [bitsOk, Bool.and_eq_true, decide_eq_true_eq, List.all_eq_true] at h1 h2 ⊢
  refine ⟨by simp; exact hl, fun x hx => ?_⟩
  rcases List.mem_append.1 hx with h | h
  · exact h1.2 x h
  · exact h2.2 x h
theorem chk_ok {g : Int} (h : genOk g = true) (xs : List Int) : bitsOk (chk g xs) = true := digits_ok _ _ (by have := (deg_lt h).2; omega)
/-- The remainder of a list that is put together. -/
theorem pm_append {g : Int} (xs ys : List Int) (hl : ys.length = deg g) : pm g.toNat (deg g) (numOf (xs ++ ys)) = tab g.toNat (deg g) (numOf xs) ^^^ numOf ys := by
  have hlt := numOf_lt ys
  rw [numOf_append, hl, add_xor _ _ _ (by rw [← hl]; exact hlt), pm_xor, pm_small (n := numOf ys) (by rw [← hl]; exact hlt)]
  rfl
theorem xor_zero_iff {a b : Nat} : a ^^^ b = 0 ↔ a = b := by
  constructor
  · intro h
    apply Nat.eq_of_testBit_eq
    intro i
    have := congrArg (fun x => Nat.testBit x i) h
    simp only [Nat.testBit_xor, Nat.zero_testBit] at this
    cases e1 : a.testBit i <;> cases e2 : b.testBit i <;> simp_all
  · rintro rfl; simp
/-- A list passes exactly if its last bits are the check bits of the others. -/
theorem passes_iff {g : Int} {xs : List Int} (h1 : bitsOk xs = true) (h2 : genOk g = true) (h3 : deg g ≤ xs.length) :
    passes g xs = decide (chk g (xs.take (xs.length - deg g)) = xs.drop (xs.length - deg g)) := by
  have hl : (xs.drop (xs.length - deg g)).length = deg g := by simp; omega
  have hs : xs.take (xs.length - deg g) ++ xs.drop (xs.length - deg g) = xs := List.take_append_drop _ _
  have h4 := pm_append (g := g) (xs.take (xs.length - deg g)) (xs.drop (xs.length - deg g)) hl
  rw [hs] at h4
  rw [Bool.eq_iff_iff]
  simp only [passes, chkOk, h1, h2, h3, Bool.true_and, decide_true, decide_eq_true_eq, h4, xor_zero_iff]
  constructor
  · intro h
    refine numOf_inj (chk_ok h2 _) (bitsOk_drop h1 _) (by rw [chk_length, hl]) ?_
    unfold chk
    rw [numOf_digits (tab_lt h2 _), h]
  · intro h
    rw [← h]
    unfold chk
    rw [numOf_digits (tab_lt h2 _)]
theorem passes_append {g : Int} {xs : List Int} (h1 : bitsOk xs = true) (h2 : genOk g = true) (hl : xs.length + deg g ≤ 1024) : passes g (xs ++ chk g xs) = true := by
  refine passes_of (bitsOk_append h1 (chk_ok h2 _) (by rw [chk_length]; exact hl)) h2 (by simp [chk_length]) ?_
  rw [pm_append _ _ (chk_length _ _), xor_zero_iff]
  unfold chk
  rw [numOf_digits (tab_lt h2 _)]
theorem numOf_sum {xs ys : List Int} (hl : xs.length = ys.length) : numOf (sumBits xs ys) = numOf xs ^^^ numOf ys := by
  unfold sumBits
  rw [numOf_bitList]
  unfold numOf
  rw [← hl, ← numF_xor]
  rfl
theorem chk_sum {g : Int} (hg : genOk g = true) {xs ys : List Int} (hl : xs.length = ys.length) : chk g (sumBits xs ys) = sumBits (chk g xs) (chk g ys) := by
  have hd : deg g ≤ 1024 := by have := (deg_lt hg).2; omega
  refine numOf_inj (chk_ok hg _) (sumBits_ok (by rw [chk_length]; exact hd)) (by rw [chk_length, sumBits_length, chk_length]) ?_
  rw [numOf_sum (by rw [chk_length, chk_length])]
  unfold chk
  rw [numOf_digits (tab_lt hg _), numOf_digits (tab_lt hg _), numOf_digits (tab_lt hg _), numOf_sum hl, tab_xor]
theorem chk_zeros {g : Int} (hg : genOk g = true) (n : Nat) : chk g (zeros n) = zeros (deg g) := by
  have hd : deg g ≤ 1024 := by have := (deg_lt hg).2; omega
  refine numOf_inj (chk_ok hg _) (zeros_ok hd) (by rw [chk_length, zeros_length]) ?_
  unfold chk
  rw [numOf_digits (tab_lt hg _), numOf_zeros, numOf_zeros, tab_zero]
theorem passes_sum {g : Int} {xs ys : List Int} (h1 : passes g xs = true) (hl : xs.length = ys.length) : passes g (sumBits xs ys) = decide (pm g.toNat (deg g) (numOf ys) = 0) := by
  obtain ⟨a1, a2, a3, a4⟩ := passes_parts h1
  have hok : bitsOk (sumBits xs ys) = true := sumBits_ok (bitsOk_length a1)
  have h5 : pm g.toNat (deg g) (numOf (sumBits xs ys)) = pm g.toNat (deg g) (numOf ys) := by rw [numOf_sum hl, pm_xor, a4, Nat.zero_xor]
  simp [passes, chkOk, hok, a2, h5, sumBits_length, a3]
theorem passes_zeros {g : Int} (hg : genOk g = true) : passes g (zeros (deg g)) = true :=
  passes_of (zeros_ok (by have := (deg_lt hg).2; omega)) hg (by rw [zeros_length]; exact Nat.le_refl _) (by rw [numOf_zeros, pm_zero])
/-- The damage that a burst does. -/
def damage (n i : Nat) (bs : List Int) : List Int := zeros i ++ bs ++ zeros (n - i - bs.length)
theorem damage_length {n i : Nat} {bs : List Int} (h : i + bs.length ≤ n) : (damage n i bs).length = n := by simp [damage, zeros_length]; omega
theorem damage_num (n i : Nat) (bs : List Int) : numOf (damage n i bs) = numOf bs * 2 ^ (n - i - bs.length) := by
  unfold damage
  rw [numOf_append, numOf_append, numOf_zeros, numOf_zeros, zeros_length]
  simp
theorem numOf_eq_zero {bs : List Int} (hb : bitsOk bs = true) : numOf bs = 0 ↔ ∀ j, j < bs.length → el bs j = 0 := by
  constructor
  · intro h j hj
    have := numF_ne h j hj
    rw [bitsOk_el hb hj, this]; rfl
  · intro h
    refine numF_zero fun j hj => ?_
    simp [bitsF, h j hj]
theorem burst_quiet {g : Int} {n i : Nat} {bs : List Int} (h : numOf bs = 0) : pm g.toNat (deg g) (numOf (damage n i bs)) = 0 := by
  rw [damage_num, h, Nat.zero_mul, pm_zero]
theorem gen_odd {g : Int} (h : genOk g = true) : g.toNat % 2 = 1 := by
  obtain ⟨h1, h2, h3⟩ := genOk_parts h
  omega
theorem burst_loud {g : Int} {n i : Nat} {bs : List Int} (hg : genOk g = true) (hl : bs.length ≤ deg g) (h : numOf bs ≠ 0) : pm g.toNat (deg g) (numOf (damage n i bs)) ≠ 0 := by
  rw [damage_num]
  refine pm_shift_ne (gen_odd hg) ?_ _
  rw [pm_small (Nat.lt_of_lt_of_le (numOf_lt bs) (Nat.pow_le_pow_right (by omega) hl))]
  exact h
end Go.Proofs.YtflplihhakepfaaDoor
