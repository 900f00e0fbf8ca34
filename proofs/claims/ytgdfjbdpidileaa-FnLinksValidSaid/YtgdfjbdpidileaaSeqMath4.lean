/-
  What the functions of chapter 10 answer, case by case; undoing number by number. No condition; plain lemmas.
-/
import Derived.Test.YtgdfjbdpidileaaSeqMath3
namespace Go.Proofs.Ytgdfjbdpidileaa
open Go.RowKit

theorem fltOr_no {xs ys : List Int} (h : ¬ (seqOk xs = true ∧ seqOk ys = true ∧ 0 < xs.length ∧ 0 < ys.length)) : fltOr xs ys = [] := if_neg h
theorem fltOr_yes {xs ys : List Int} (h1 : seqOk xs = true) (h2 : seqOk ys = true) (h3 : 0 < xs.length) (h4 : 0 < ys.length) : fltOr xs ys = cvL xs ys := if_pos ⟨h1, h2, h3, h4⟩
theorem fltOr_length (xs ys : List Int) : (fltOr xs ys).length ≤ 1048576 := by
  unfold fltOr; split
  · next h => rw [cvL_length]; have := seqOk_len h.1; have := seqOk_len h.2.1; omega
  · simp
theorem fltOr_small (xs ys : List Int) : (fltOr xs ys).length ≤ 127 := by
  unfold fltOr; split
  · next h => rw [cvL_length]; have := seqOk_len h.1; have := seqOk_len h.2.1; omega
  · simp
theorem crOr_no {xs ps : List Int} {q : Int} (h : ¬ (seqOk xs = true ∧ seqOk ps = true ∧ 0 ≤ q ∧ q ≤ (xs.length : Int) - ps.length)) : crOr xs ps q = 0 := if_neg h
theorem crOr_yes {xs ps : List Int} {Q : Nat} (h1 : seqOk xs = true) (h2 : seqOk ps = true) (h3 : Q + ps.length ≤ xs.length) : crOr xs ps (Q : Int) = crS xs ps Q ps.length := if_pos ⟨h1, h2, by omega, by omega⟩
theorem fpOr_no {xs ps : List Int} (h : ¬ (seqOk xs = true ∧ seqOk ps = true ∧ 0 < ps.length ∧ ps.length ≤ xs.length)) : fpOr xs ps = -1 := if_neg h
theorem fpOr_yes {xs ps : List Int} (h1 : seqOk xs = true) (h2 : seqOk ps = true) (h3 : 0 < ps.length) (h4 : ps.length ≤ xs.length) : fpOr xs ps = (fpN (fun q => crS xs ps q ps.length) (xs.length - ps.length) : Nat) := if_pos ⟨h1, h2, h3, h4⟩
theorem raiOr_no {xs : List Int} {n : Int} (h : ¬ (seqOk xs = true ∧ 1 ≤ n ∧ n ≤ 8 ∧ (xs.length : Int) * n ≤ 64)) : raiOr xs n = [] := if_neg h
theorem raiOr_yes {xs : List Int} {N : Nat} (h : seqOk xs = true) (h1 : 1 ≤ N) (h2 : N ≤ 8) (h3 : xs.length * N ≤ 64) : raiOr xs (N : Int) = rai xs N := by
  unfold raiOr
  rw [if_pos ⟨h, by omega, by omega, by exact_mod_cast h3⟩]; rfl
theorem raiOr_length (xs : List Int) (n : Int) : (raiOr xs n).length ≤ 1048576 := by
  unfold raiOr; split
  · next h =>
    obtain ⟨_, h1, h2, h3⟩ := h
    obtain ⟨N, rfl⟩ := Int.eq_ofNat_of_zero_le (show 0 ≤ n by omega)
    rw [rai_length, Int.toNat_natCast]
    have : xs.length * N ≤ 64 := by exact_mod_cast h3
    omega
  · simp
theorem lowOr_no {xs : List Int} {n p : Int} (h : ¬ (seqOk xs = true ∧ 1 ≤ n ∧ n ≤ 8 ∧ 0 ≤ p ∧ p ≤ n - 1)) : lowOr xs n p = [] := if_neg h
theorem lowOr_yes {xs : List Int} {N P : Nat} (h : seqOk xs = true) (h1 : 1 ≤ N) (h2 : N ≤ 8) (h3 : P < N) : lowOr xs (N : Int) (P : Int) = low xs N P := by
  unfold lowOr
  rw [if_pos ⟨h, by omega, by omega, by omega, by omega⟩]; rfl
theorem lowC_le (len N P : Nat) : lowC len N P ≤ len + N := by
  unfold lowC
  exact Nat.le_trans (Nat.div_le_self _ _) (by omega)
theorem lowOr_length (xs : List Int) (n p : Int) : (lowOr xs n p).length ≤ 1048576 := by
  unfold lowOr; split
  · next h =>
    obtain ⟨h0, h1, h2, h3, h4⟩ := h
    have := lowC_le xs.length n.toNat p.toNat
    have := seqOk_len h0
    rw [low_length]; omega
  · simp
/-- The part of a lowered sequence that j numbers make. -/
def lowT (xs : List Int) (N P j : Nat) : List Int := (List.range j).map fun j => el xs (P + j * N)
theorem lowT_snoc (xs : List Int) (N P j : Nat) : lowT xs N P (j + 1) = lowT xs N P j ++ [el xs (P + j * N)] := low_snoc xs N P j
theorem lowT_done {xs : List Int} {N P j : Nat} (hP : P < N) (h1 : xs.length ≤ P + j * N) (h2 : ∀ i, i < j → P + i * N < xs.length) : lowT xs N P j = low xs N P := by
  unfold lowT low
  congr 2
  have a : ¬ j < lowC xs.length N P := fun h => by have := (lowC_lt hP).1 h; omega
  rcases Nat.lt_or_ge (lowC xs.length N P) j with h | h
  · have := (lowC_lt (len := xs.length) (N := N) (P := P) (j := lowC xs.length N P) hP).2 (h2 _ h); omega
  · omega
/-- Undone: whether, and what. -/
def undB (xs fs : List Int) : Bool := seqOk xs && seqOk fs && decide (0 < fs.length) && decide (el fs 0 = 1) && (List.range xs.length).all fun i => seqIn (el (und xs fs xs.length) i)
def undL (xs fs : List Int) : List Int := if undB xs fs then und xs fs xs.length else []
theorem undL_length (xs fs : List Int) : (undL xs fs).length ≤ 1048576 := by
  unfold undL; split
  · next h =>
    rw [und_length]
    simp only [undB, Bool.and_eq_true] at h
    have := seqOk_len h.1.1.1.1
    omega
  · simp
theorem undB_no {xs fs : List Int} (h : ¬ (seqOk xs = true ∧ seqOk fs = true ∧ 0 < fs.length ∧ el fs 0 = 1)) : undB xs fs = false ∧ undL xs fs = [] := by
  have e : undB xs fs = false := by
    cases hb : undB xs fs
    · rfl
    · simp only [undB, Bool.and_eq_true, decide_eq_true_eq] at hb
      exact absurd ⟨hb.1.1.1.1, hb.1.1.1.2, hb.1.1.2, hb.1.2⟩ h
  exact ⟨e, by simp [undL, e]⟩
theorem und_app (xs fs : List Int) {i k n : Nat} (hi : i < k) (hk : k ≤ n) : el (und xs fs n) i = el (und xs fs k) i := by
  induction n with
  | zero => omega
  | succ n ih =>
    by_cases e : k = n + 1
    · rw [e]
    · rw [show el (und xs fs (n + 1)) i = el (und xs fs n) i from el_app (by rw [und_length]; omega), ih (by omega)]
theorem undB_bad {xs fs : List Int} {k : Nat} (hk : k < xs.length) (h : seqIn (el (und xs fs (k + 1)) k) = false) : undB xs fs = false ∧ undL xs fs = [] := by
  have e : undB xs fs = false := by
    cases hb : undB xs fs
    · rfl
    · simp only [undB, Bool.and_eq_true, List.all_eq_true, List.mem_range] at hb
      have := hb.2 k hk
      rw [und_app xs fs (Nat.lt_succ_self k) hk, h] at this
      cases this
  exact ⟨e, by simp [undL, e]⟩
theorem undB_yes {xs fs : List Int} (h1 : seqOk xs = true) (h2 : seqOk fs = true) (h3 : 0 < fs.length) (h4 : el fs 0 = 1) (h : seqTo (und xs fs xs.length) xs.length) : undB xs fs = true ∧ undL xs fs = und xs fs xs.length := by
  have e : undB xs fs = true := by
    simp only [undB, Bool.and_eq_true, decide_eq_true_eq, List.all_eq_true, List.mem_range]
    exact ⟨⟨⟨⟨h1, h2⟩, h3⟩, h4⟩, fun i hi => h i hi⟩
  exact ⟨e, by simp [undL, e]⟩
/-- Number k, when the first i products are taken off. -/
def undN (xs fs : List Int) (k i : Nat) : Int := el xs k - sqS (fun t => el fs (t + 1) * el (und xs fs k) (k - (t + 1))) i
theorem undN_zero (xs fs : List Int) (k : Nat) : undN xs fs k 0 = el xs k := Int.sub_zero _
theorem undN_step (xs fs : List Int) (k i : Nat) : undN xs fs k (i + 1) = undN xs fs k i - el fs (i + 1) * el (und xs fs k) (k - (i + 1)) := by
  unfold undN
  show el xs k - (sqS (fun t => el fs (t + 1) * el (und xs fs k) (k - (t + 1))) i + el fs (i + 1) * el (und xs fs k) (k - (i + 1))) = _
  omega
theorem undN_full {xs fs : List Int} {k i : Nat} (h : k ≤ i ∨ fs.length ≤ i + 1) (hi : i ≤ k) : undN xs fs k i = el (und xs fs (k + 1)) k := by
  have hlen := und_length xs fs k
  have e1 : el (und xs fs (k + 1)) k = undN xs fs k k := by
    show el (und xs fs k ++ [_]) k = _
    simp [el, hlen, undN]
  rw [e1]
  rcases h with h | h
  · rw [show i = k by omega]
  · unfold undN
    rw [← sqS_tail hi fun t ht => by rw [el_out (xs := fs) (by omega), Int.zero_mul]]
theorem und_snoc (xs fs : List Int) (k : Nat) : und xs fs (k + 1) = und xs fs k ++ [undN xs fs k k] := rfl
theorem undN_in {xs fs : List Int} {k i : Nat} (h1 : seqOk xs = true) (h2 : seqOk fs = true) (h : seqTo (und xs fs k) k) (hi : i ≤ k) (hk : k ≤ 64) : -1000000000 ≤ undN xs fs k i ∧ undN xs fs k i ≤ 1000000000 := by
  have hx := seqOk_in h1 k
  have hb := sqS_bound (f := fun t => el fs (t + 1) * el (und xs fs k) (k - (t + 1))) (M := 1000000) (n := i) fun t ht => prod_in (seqOk_in h2 (t + 1)) (seqIn_yes (h _ (by omega)))
  unfold undN
  omega
theorem undTo_next {xs fs : List Int} {k : Nat} (h : seqTo (und xs fs k) k) (hn : seqIn (el (und xs fs (k + 1)) k) = true) : seqTo (und xs fs (k + 1)) (k + 1) := fun i hi => by
  by_cases e : i = k
  · subst e; exact hn
  · rw [und_app xs fs (show i < k by omega) (by omega)]; exact h i (by omega)
end Go.Proofs.Ytgdfjbdpidileaa
