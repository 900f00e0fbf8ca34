/-
  Slicing as mathematics: the number that a sample decides, its digits, the bits of a signal. No condition; plain lemmas.
-/
import Derived.Test.YtmolpeemifngcaaSigMath
import Derived.Test.YtmolpeemifngcaaRems
namespace Go.Proofs.Ytmolpeemifngcaa
open Go.RowKit

def dec1 (n : Int) : Nat := if 0 < n then 1 else 0
def dec2 (n : Int) : Nat := if n < -2 then 0 else if n ≤ 0 then 1 else if n < 2 then 3 else 2
def lev1 (n : Int) : List Int := if 0 < n then [1] else [0]
def lev2 (n : Int) : List Int := if n < -2 then [0, 0] else if n ≤ 0 then [0, 1] else if n < 2 then [1, 1] else [1, 0]
/-- The number that a sample decides with an order. -/
def decN (o : Nat) (p : Smp) : Nat := if o = 1 then dec1 p.1 else if o = 2 then dec1 p.1 * 2 + dec1 p.2 else dec2 p.1 * 4 + dec2 p.2
theorem dec1_cases (n : Int) : (0 < n ∧ dec1 n = 1 ∧ lev1 n = [1]) ∨ (¬ 0 < n ∧ dec1 n = 0 ∧ lev1 n = [0]) := by
  by_cases h : 0 < n
  · exact .inl ⟨h, if_pos h, if_pos h⟩
  · exact .inr ⟨h, if_neg h, if_neg h⟩
theorem dec2_cases (n : Int) : (n < -2 ∧ dec2 n = 0 ∧ lev2 n = [0, 0]) ∨ ((¬ n < -2 ∧ n ≤ 0) ∧ dec2 n = 1 ∧ lev2 n = [0, 1]) ∨ ((¬ n < -2 ∧ ¬ n ≤ 0 ∧ n < 2) ∧ dec2 n = 3 ∧ lev2 n = [1, 1]) ∨ ((¬ n < -2 ∧ ¬ n ≤ 0 ∧ ¬ n < 2) ∧ dec2 n = 2 ∧ lev2 n = [1, 0]) := by
  unfold dec2 lev2
  by_cases h1 : n < -2
  · exact .inl ⟨h1, if_pos h1, if_pos h1⟩
  · by_cases h2 : n ≤ 0
    · exact .inr (.inl ⟨⟨h1, h2⟩, by rw [if_neg h1, if_pos h2], by rw [if_neg h1, if_pos h2]⟩)
    · by_cases h3 : n < 2
      · exact .inr (.inr (.inl ⟨⟨h1, h2, h3⟩, by rw [if_neg h1, if_neg h2, if_pos h3], by rw [if_neg h1, if_neg h2, if_pos h3]⟩))
      · exact .inr (.inr (.inr ⟨⟨h1, h2, h3⟩, by rw [if_neg h1, if_neg h2, if_neg h3], by rw [if_neg h1, if_neg h2, if_neg h3]⟩))
theorem dec1_lt (n : Int) : dec1 n < 2 := by rcases dec1_cases n with ⟨_, h, _⟩ | ⟨_, h, _⟩ <;> rw [h] <;> decide
theorem dec2_lt (n : Int) : dec2 n < 4 := by rcases dec2_cases n with ⟨_, h, _⟩ | ⟨_, h, _⟩ | ⟨_, h, _⟩ | ⟨_, h, _⟩ <;> rw [h] <;> decide
theorem decN_lt (o : Nat) (p : Smp) : decN o p < 16 := by
  have h1 := dec1_lt p.1
  have h2 := dec1_lt p.2
  have h3 := dec2_lt p.1
  have h4 := dec2_lt p.2
  unfold decN
  split
  · omega
  · split <;> omega
def ordOk (o : Nat) : Bool := decide (o = 1) || (decide (o = 2) || decide (o = 4))
theorem ordOk_cases {o : Nat} (h : ordOk o = true) : o = 1 ∨ o = 2 ∨ o = 4 := by simpa [ordOk] using h
/-- The bits of a sample. -/
def slc (o : Nat) (p : Smp) : List Int := digits (decN o p) o
theorem slc_length (o : Nat) (p : Smp) : (slc o p).length = o := digits_length _ _
theorem slc_one (p : Smp) : slc 1 p = lev1 p.1 := by
  unfold slc decN
  rw [if_pos rfl]
  rcases dec1_cases p.1 with ⟨_, h, h'⟩ | ⟨_, h, h'⟩ <;> rw [h, h'] <;> decide +kernel
theorem slc_two (p : Smp) : slc 2 p = lev1 p.1 ++ lev1 p.2 := by
  unfold slc decN
  rw [if_neg (by decide), if_pos rfl]
  rcases dec1_cases p.1 with ⟨_, h, h'⟩ | ⟨_, h, h'⟩ <;> rcases dec1_cases p.2 with ⟨_, g, g'⟩ | ⟨_, g, g'⟩ <;> rw [h, h', g, g'] <;> decide +kernel
theorem slc_four (p : Smp) : slc 4 p = lev2 p.1 ++ lev2 p.2 := by
  unfold slc decN
  rw [if_neg (by decide), if_neg (by decide)]
  rcases dec2_cases p.1 with ⟨_, h, h'⟩ | ⟨_, h, h'⟩ | ⟨_, h, h'⟩ | ⟨_, h, h'⟩ <;> rcases dec2_cases p.2 with ⟨_, g, g'⟩ | ⟨_, g, g'⟩ | ⟨_, g, g'⟩ | ⟨_, g, g'⟩ <;> rw [h, h', g, g'] <;> decide +kernel
/-- The bits of a signal. -/
def slcs (o : Nat) (ps : List Smp) : List Int := ps.flatMap (slc o)
theorem slcs_take {o : Nat} {ps : List Smp} {k : Nat} (h : k < ps.length) : slcs o (ps.take (k + 1)) = slcs o (ps.take k) ++ slc o (sp ps k) := by rw [take_sp h]; simp [slcs]
theorem slcs_length (o : Nat) : ∀ ps : List Smp, (slcs o ps).length = ps.length * o
  | [] => by simp [slcs]
  | p :: ps => by
    have e : slcs o (p :: ps) = slc o p ++ slcs o ps := rfl
    rw [e, List.length_append, slc_length, slcs_length o ps, List.length_cons, Nat.succ_mul]; omega
def slcOr (ps : List Smp) (o : Int) : List Int := if sigOk ps = true ∧ 0 ≤ o ∧ ordOk o.toNat = true then slcs o.toNat ps else []
theorem slcOr_no {ps : List Smp} {o : Int} (h : sigOk ps = false) : slcOr ps o = [] := by simp [slcOr, h]
theorem slcOr_out {ps : List Smp} {o : Int} (h : ¬ (o = 1 ∨ o = 2 ∨ o = 4)) : slcOr ps o = [] := by
  unfold slcOr
  rw [if_neg]
  rintro ⟨_, h0, h1⟩
  rcases ordOk_cases h1 with e | e | e <;> omega
theorem slcOr_yes {ps : List Smp} {O : Nat} (h : sigOk ps = true) (ho : ordOk O = true) : slcOr ps (O : Int) = slcs O ps := by
  unfold slcOr
  rw [Int.toNat_natCast, if_pos ⟨h, by omega, ho⟩]
theorem slcOr_length (ps : List Smp) (o : Int) : (slcOr ps o).length ≤ 1024 := by
  unfold slcOr
  split
  · next h =>
    obtain ⟨h1, h2, h3⟩ := h
    have := sigOk_len h1
    rw [slcs_length]
    rcases ordOk_cases h3 with e | e | e <;> rw [e] <;> omega
  · simp
end Go.Proofs.Ytmolpeemifngcaa
