/-
  Peaks, gains and means: mathematics, what the functions of chapter 13 answer. No condition; plain lemmas.
-/
import Derived.Test.YtckjlonlkckhdaaSeqMath
namespace Go.Proofs.Ytckjlonlkckhdaa
open Go.RowKit

/-- The absolute value; the number nearest in a range. -/
def ab (x : Int) : Int := if x < 0 then -x else x
def mx (a b : Int) : Int := if a < b then b else a
def clip (lo hi x : Int) : Int := if x < lo then lo else if hi < x then hi else x
theorem ab_neg (x : Int) : ab (-x) = ab x := by unfold ab; split <;> split <;> omega
theorem ab_pos (x : Int) : 0 ≤ ab x := by unfold ab; split <;> omega
theorem mx_ab (x : Int) : mx x (-x) = ab x := by unfold mx ab; split <;> split <;> omega
theorem clip_in {lo hi : Int} (h : lo ≤ hi) (x : Int) : lo ≤ clip lo hi x ∧ clip lo hi x ≤ hi := by unfold clip; split <;> (try split) <;> omega
theorem clip_id {lo hi x : Int} (h : lo ≤ x) (h' : x ≤ hi) : clip lo hi x = x := by unfold clip; rw [if_neg (by omega), if_neg (by omega)]
theorem clip_neg (M x : Int) (hM : 0 ≤ M) : clip (-M) M (-x) = -clip (-M) M x := by unfold clip; repeat' split <;> omega
theorem clip_inner {M x : Int} (hM : 0 < M) (h : ab (clip (-M) M x) ≠ M) : clip (-M) M x = x := by
  unfold clip at *
  by_cases h1 : x < -M
  · rw [if_pos h1] at h
    unfold ab at h
    rw [if_pos (by omega)] at h
    omega
  · rw [if_neg h1] at h ⊢
    by_cases h2 : M < x
    · rw [if_pos h2] at h
      unfold ab at h
      rw [if_neg (by omega)] at h
      exact absurd rfl h
    · rw [if_neg h2]
/-- The greatest absolute value of the first n numbers. -/
def pkN (xs : List Int) : Nat → Int
  | 0 => 0
  | n + 1 => mx (pkN xs n) (ab (el xs n))
theorem pkN_pos (xs : List Int) : ∀ n, 0 ≤ pkN xs n
  | 0 => Int.le_refl _
  | n + 1 => by
    have := pkN_pos xs n
    have := ab_pos (el xs n)
    unfold pkN mx
    split <;> omega
theorem pkN_ge (xs : List Int) : ∀ {n k : Nat}, k < n → ab (el xs k) ≤ pkN xs n
  | n + 1, k, h => by
    unfold pkN mx
    by_cases e : k = n
    · subst e; split <;> omega
    · have := pkN_ge xs (n := n) (k := k) (by omega)
      split <;> omega
theorem pkN_met (xs : List Int) : ∀ n, 0 < n → ∃ k, k < n ∧ ab (el xs k) = pkN xs n
  | 0, h => absurd h (by omega)
  | n + 1, _ => by
    unfold pkN mx
    by_cases h1 : pkN xs n < ab (el xs n)
    · rw [if_pos h1]; exact ⟨n, by omega, rfl⟩
    · rw [if_neg h1]
      rcases Nat.eq_zero_or_pos n with h0 | h0
      · subst h0
        have := ab_pos (el xs 0)
        have e : pkN xs 0 = 0 := rfl
        exact ⟨0, by omega, by omega⟩
      · obtain ⟨k, hk, e⟩ := pkN_met xs n h0
        exact ⟨k, by omega, e⟩
theorem pkN_le {xs : List Int} (h : seqOk xs = true) : ∀ n, pkN xs n ≤ 1000
  | 0 => by show (0 : Int) ≤ 1000; omega
  | n + 1 => by
    have h1 := pkN_le h n
    have h2 := seqOk_in h n
    unfold pkN mx ab
    repeat' split <;> omega
def pkOr (xs : List Int) : Int := if seqOk xs then pkN xs xs.length else -1
theorem pkOr_no {xs : List Int} (h : seqOk xs = false) : pkOr xs = -1 := by simp [pkOr, h]
theorem pkOr_yes {xs : List Int} (h : seqOk xs = true) : pkOr xs = pkN xs xs.length := by simp [pkOr, h]
/-- One step of a gain. -/
def gnN (g peak wanted : Int) : Int :=
  if peak = 0 ∨ peak * g / 256 = wanted then g else if peak * g / 256 < wanted then clip 1 4096 (g + mx 1 (g / 16)) else clip 1 4096 (g - mx 1 (g / 16))
def gnOk (g : Int) (xs : List Int) (wanted : Int) : Prop := seqOk xs = true ∧ (1 ≤ g ∧ g ≤ 4096) ∧ 1 ≤ wanted ∧ wanted ≤ 1000
instance (g : Int) (xs : List Int) (wanted : Int) : Decidable (gnOk g xs wanted) := by unfold gnOk; exact inferInstance
def gnOr (g : Int) (xs : List Int) (wanted : Int) : Int := if gnOk g xs wanted then gnN g (pkN xs xs.length) wanted else 0
theorem gnOr_no {g : Int} {xs : List Int} {wanted : Int} (h : ¬ gnOk g xs wanted) : gnOr g xs wanted = 0 := if_neg h
theorem gnOr_yes {g : Int} {xs : List Int} {wanted : Int} (h : gnOk g xs wanted) : gnOr g xs wanted = gnN g (pkN xs xs.length) wanted := if_pos h
theorem gn_facts {g peak wanted : Int} (hg : 1 ≤ g ∧ g ≤ 4096) : (1 ≤ gnN g peak wanted ∧ gnN g peak wanted ≤ 4096) ∧ ab (gnN g peak wanted - g) ≤ mx 1 (g / 16) ∧
    (gnN g peak wanted ≤ g ∨ peak * g / 256 < wanted) ∧ (g ≤ gnN g peak wanted ∨ wanted < peak * g / 256) := by
  have h16 : 0 ≤ g / 16 := by omega
  generalize hm : mx 1 (g / 16) = m
  have hm1 : 1 ≤ m := by rw [← hm]; unfold mx; split <;> omega
  unfold gnN
  rw [hm]
  by_cases h1 : peak = 0 ∨ peak * g / 256 = wanted
  · rw [if_pos h1]
    refine ⟨hg, ?_, .inl (Int.le_refl _), .inl (Int.le_refl _)⟩
    rw [show g - g = 0 by omega]
    show (0 : Int) ≤ m
    omega
  · rw [if_neg h1]
    by_cases h2 : peak * g / 256 < wanted
    · rw [if_pos h2]
      refine ⟨clip_in (by omega) _, ?_, .inr h2, .inl ?_⟩
      · unfold clip ab; repeat' split <;> omega
      · unfold clip; repeat' split <;> omega
    · rw [if_neg h2]
      have h3 : wanted < peak * g / 256 := by
        have : peak * g / 256 ≠ wanted := fun h => h1 (.inr h)
        omega
      refine ⟨clip_in (by omega) _, ?_, .inl ?_, .inr h3⟩
      · unfold clip ab; repeat' split <;> omega
      · unfold clip; repeat' split <;> omega
/-- A gain applied. -/
def agF (g : Int) (xs : List Int) (k : Nat) : Int := clip (-1000) 1000 ((el xs k * g).tdiv 256)
def agL (g : Int) (xs : List Int) : List Int := (List.range xs.length).map (agF g xs)
def agOr (g : Int) (xs : List Int) : List Int := if seqOk xs = true ∧ 1 ≤ g ∧ g ≤ 4096 then agL g xs else []
theorem agL_length (g : Int) (xs : List Int) : (agL g xs).length = xs.length := by simp [agL]
theorem agL_el {g : Int} {xs : List Int} {k : Nat} (h : k < xs.length) : el (agL g xs) k = agF g xs k := by simp [agL, el, h]
theorem agOr_no {g : Int} {xs : List Int} (h : ¬ (seqOk xs = true ∧ 1 ≤ g ∧ g ≤ 4096)) : agOr g xs = [] := if_neg h
theorem agOr_yes {g : Int} {xs : List Int} (h : seqOk xs = true) (h1 : 1 ≤ g) (h2 : g ≤ 4096) : agOr g xs = agL g xs := if_pos ⟨h, h1, h2⟩
theorem agOr_length (g : Int) (xs : List Int) : (agOr g xs).length ≤ 64 := by
  unfold agOr; split
  · next h => rw [agL_length]; exact seqOk_len h.1
  · simp
theorem seqOk_of {xs : List Int} (hl : xs.length ≤ 64) (h : ∀ i, i < xs.length → -1000 ≤ el xs i ∧ el xs i ≤ 1000) : seqOk xs = true := seqOk_good (fun i hi => by
  have := h i hi
  simp only [seqIn, Bool.and_eq_true, decide_eq_true_eq]
  omega) hl
theorem agL_ok {g : Int} {xs : List Int} (h : seqOk xs = true) : seqOk (agL g xs) = true := seqOk_of (by rw [agL_length]; exact seqOk_len h) fun i hi => by
  rw [agL_length] at hi
  rw [agL_el hi]
  exact clip_in (by omega) _
theorem agL_256 {xs : List Int} (h : seqOk xs = true) : agL 256 xs = xs := list_ext9 (agL_length _ _) fun k hk => by
  rw [agL_length] at hk
  have := seqOk_in h k
  rw [agL_el hk, agF, Int.mul_tdiv_cancel _ (by decide), clip_id (by omega) (by omega)]
theorem agF_neg {g : Int} {xs ys : List Int} {k : Nat} (h : el ys k = -el xs k) : agF g ys k = -agF g xs k := by
  unfold agF
  rw [h, Int.neg_mul, Int.neg_tdiv, clip_neg _ _ (by omega)]
theorem agF_sign {g : Int} {xs : List Int} {k : Nat} (hg : 1 ≤ g) : 0 ≤ agF g xs k * el xs k := by
  unfold agF
  generalize el xs k = x
  have hc : ∀ y : Int, (0 ≤ y → 0 ≤ clip (-1000) 1000 y) ∧ (y ≤ 0 → clip (-1000) 1000 y ≤ 0) := fun y => by
    unfold clip
    constructor <;> intro h <;> (repeat' split <;> omega)
  rcases Int.le_total 0 x with h | h
  · exact Int.mul_nonneg ((hc _).1 (Int.tdiv_nonneg (Int.mul_nonneg h (by omega)) (by decide))) h
  · have h1 : (x * g).tdiv 256 ≤ 0 := by
      have h2 : 0 ≤ (-x * g).tdiv 256 := Int.tdiv_nonneg (Int.mul_nonneg (by omega) (by omega)) (by decide)
      rw [Int.neg_mul, Int.neg_tdiv] at h2
      omega
    have h3 := (hc _).2 h1
    have h4 : 0 ≤ -clip (-1000) 1000 ((x * g).tdiv 256) * -x := Int.mul_nonneg (by omega) (by omega)
    rwa [Int.neg_mul_neg] at h4
/-- A mean removed. -/
def mn (xs : List Int) : Int := (sumL xs).tdiv xs.length
def rmF (xs : List Int) (k : Nat) : Int := clip (-1000) 1000 (el xs k - mn xs)
def rmL (xs : List Int) : List Int := (List.range xs.length).map (rmF xs)
def rmOr (xs : List Int) : List Int := if seqOk xs = true ∧ 0 < xs.length then rmL xs else []
theorem rmL_length (xs : List Int) : (rmL xs).length = xs.length := by simp [rmL]
theorem rmL_el {xs : List Int} {k : Nat} (h : k < xs.length) : el (rmL xs) k = rmF xs k := by simp [rmL, el, h]
theorem rmOr_no {xs : List Int} (h : ¬ (seqOk xs = true ∧ 0 < xs.length)) : rmOr xs = [] := if_neg h
theorem rmOr_yes {xs : List Int} (h : seqOk xs = true) (h0 : 0 < xs.length) : rmOr xs = rmL xs := if_pos ⟨h, h0⟩
theorem rmOr_length (xs : List Int) : (rmOr xs).length ≤ 64 := by
  unfold rmOr; split
  · next h => rw [rmL_length]; exact seqOk_len h.1
  · simp
theorem rmL_ok {xs : List Int} (h : seqOk xs = true) : seqOk (rmL xs) = true := seqOk_of (by rw [rmL_length]; exact seqOk_len h) fun i hi => by
  rw [rmL_length] at hi
  rw [rmL_el hi]
  exact clip_in (by omega) _
theorem sumL_in {xs : List Int} (h : seqOk xs = true) : -64000 ≤ sumL xs ∧ sumL xs ≤ 64000 := by
  have h1 := sqS_bound (f := el xs) (M := 1000) (n := xs.length) fun i _ => seqOk_in h i
  have h2 := seqOk_len h
  unfold sumL
  omega
theorem mn_in {xs : List Int} (h : seqOk xs = true) (h0 : 0 < xs.length) : -1000 ≤ mn xs ∧ mn xs ≤ 1000 := by
  have h1 := sqS_bound (f := el xs) (M := 1000) (n := xs.length) fun i _ => seqOk_in h i
  have hp : (0 : Int) < xs.length := by omega
  have hu : ∀ s : Int, 0 ≤ s → s ≤ xs.length * 1000 → s.tdiv xs.length ≤ 1000 := fun s hs hs2 => by
    rw [Int.tdiv_eq_ediv_of_nonneg hs]
    have : s / (xs.length : Int) ≤ (xs.length * 1000) / (xs.length : Int) := Int.ediv_le_ediv hp hs2
    rwa [Int.mul_ediv_cancel_left _ (by omega)] at this
  unfold mn
  rcases Int.le_total 0 (sumL xs) with hs | hs
  · exact ⟨by have := Int.tdiv_nonneg hs (by omega : (0 : Int) ≤ xs.length); omega, hu _ hs (by unfold sumL; omega)⟩
  · have h2 := hu (-sumL xs) (by omega) (by unfold sumL; omega)
    have h3 := Int.tdiv_nonneg (show 0 ≤ -sumL xs by omega) (by omega : (0 : Int) ≤ xs.length)
    rw [Int.neg_tdiv] at h2 h3
    omega
/-- If no number lies at the end of the range, none was moved: the sum is what the division left. -/
theorem rm_sum {xs : List Int} (h0 : 0 < xs.length) (h : ∀ k, k < xs.length → ab (rmF xs k) ≠ 1000) : sumL (rmL xs) = (sumL xs).tmod xs.length ∧ ab (sumL (rmL xs)) < xs.length := by
  have e : ∀ k, k < xs.length → el (rmL xs) k = el xs k + -(mn xs) := fun k hk => by
    rw [rmL_el hk, rmF, clip_inner (by omega) (h k hk)]; omega
  have e2 : ∀ n, sqS (fun _ => -(mn xs)) n = -((n : Int) * mn xs) := fun n => by
    induction n with
    | zero => show (0 : Int) = _; omega
    | succ n ih =>
      show sqS _ n + -(mn xs) = _
      rw [ih, Int.natCast_add, Int.add_mul]; omega
  have e3 : sumL (rmL xs) = (sumL xs).tmod xs.length := by
    unfold sumL
    rw [rmL_length, sqS_congr e, sqS_add, e2]
    have := Int.mul_tdiv_add_tmod (sumL xs) xs.length
    unfold mn sumL at *
    omega
  refine ⟨e3, ?_⟩
  rw [e3]
  have h1 := Int.tmod_lt_of_pos (sumL xs) (show (0 : Int) < xs.length by omega)
  have h2 := Int.tmod_lt_of_pos (-sumL xs) (show (0 : Int) < xs.length by omega)
  rw [Int.neg_tmod] at h2
  unfold ab
  split <;> omega
theorem sum_flat (n : Nat) (c : Int) : sumL (List.replicate n c) = n * c := by
  have e : ∀ m, m ≤ n → sqS (el (List.replicate n c)) m = m * c := fun m => by
    induction m with
    | zero => intro _; show (0 : Int) = _; omega
    | succ m ih =>
      intro hm
      show sqS _ m + el (List.replicate n c) m = _
      have e1 : el (List.replicate n c) m = c := by simp [el, show m < n by omega]
      rw [ih (by omega), e1, Int.natCast_add, Int.add_mul]; omega
  unfold sumL
  rw [List.length_replicate, e n (Nat.le_refl _)]
theorem rm_flat {n : Nat} {c : Int} (hn : 0 < n) : rmL (List.replicate n c) = List.replicate n 0 := by
  have hm : mn (List.replicate n c) = c := by
    unfold mn
    rw [sum_flat, List.length_replicate, Int.mul_comm, Int.mul_tdiv_cancel _ (by omega)]
  refine list_ext9 (by rw [rmL_length]; simp) fun k hk => ?_
  rw [rmL_length, List.length_replicate] at hk
  have e1 : el (List.replicate n c) k = c := by simp [el, hk]
  rw [rmL_el (by rw [List.length_replicate]; exact hk), rmF, hm, e1, show c - c = 0 by omega]
  simp [el, hk, clip]
/-- Removed once more. -/
theorem rm_again {xs : List Int} (hs : seqOk xs = true) (h0 : 0 < xs.length) (h : pkN (rmL xs) xs.length ≠ 1000) : rmL (rmL xs) = rmL xs := by
  have hle := pkN_le (rmL_ok hs) xs.length
  have hin : ∀ k, k < xs.length → ab (rmF xs k) ≠ 1000 := fun k hk e => by
    have := pkN_ge (rmL xs) (n := xs.length) hk
    rw [rmL_el hk, e] at this
    omega
  obtain ⟨_, h1⟩ := rm_sum h0 hin
  have hm : mn (rmL xs) = 0 := by
    unfold mn
    rw [rmL_length]
    unfold ab at h1
    rcases Int.le_total 0 (sumL (rmL xs)) with hp | hp
    · rw [if_neg (by omega)] at h1
      exact Int.tdiv_eq_zero_of_lt hp h1
    · have h2 : (-sumL (rmL xs)).tdiv xs.length = 0 := Int.tdiv_eq_zero_of_lt (by omega) (by split at h1 <;> omega)
      rw [Int.neg_tdiv] at h2
      omega
  refine list_ext9 (rmL_length _) fun k hk => ?_
  rw [rmL_length, rmL_length] at hk
  have hb := seqOk_in (rmL_ok hs) k
  rw [rmL_el (by rw [rmL_length]; exact hk), rmF, hm, Int.sub_zero, clip_id (by omega) (by omega)]
end Go.Proofs.Ytckjlonlkckhdaa
