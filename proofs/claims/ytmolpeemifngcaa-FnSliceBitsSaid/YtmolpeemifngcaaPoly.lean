/-
  Polynomials over two elements, written as natural numbers: remainders, and that they are linear. Plain mathematics; conditions: the divisor has the degree d, where a lemma says so.
-/
import Derived.Test.YtmolpeemifngcaaBase
namespace Go.Proofs.Ytmolpeemifngcaa

/-- One step of a division: the divisor is taken off where the coefficient of x^d is 1. -/
def stp (g d t : Nat) : Nat := t ^^^ (if t.testBit d then g else 0)
/-- The remainder of the polynomial n. -/
def pm (g d n : Nat) : Nat := if n = 0 then 0 else stp g d (2 * pm g d (n / 2) + n % 2)
termination_by n
decreasing_by omega

theorem stp_zero (g d : Nat) : stp g d 0 = 0 := by simp [stp]
theorem pm_eq (g d n : Nat) : pm g d n = stp g d (2 * pm g d (n / 2) + n % 2) := by
  by_cases h : n = 0
  · subst h
    have h0 : pm g d 0 = 0 := by rw [pm]; simp
    simp [h0, stp_zero]
  · rw [pm]; simp [h]
theorem pm_zero (g d : Nat) : pm g d 0 = 0 := by rw [pm]; simp
theorem stp_xor (g d a b : Nat) : stp g d (a ^^^ b) = stp g d a ^^^ stp g d b := by
  unfold stp
  rw [Nat.testBit_xor]
  apply Nat.eq_of_testBit_eq
  intro i
  cases a.testBit d <;> cases b.testBit d <;> simp [Nat.testBit_xor] <;> cases a.testBit i <;> cases b.testBit i <;> cases g.testBit i <;> rfl
theorem two_xor (a b x y : Nat) (hx : x < 2) (hy : y < 2) : 2 * (a ^^^ b) + (x ^^^ y) = (2 * a + x) ^^^ (2 * b + y) := by
  have hxy : x ^^^ y < 2 := Nat.xor_lt_two_pow (n := 1) hx hy
  apply Nat.eq_of_testBit_eq
  intro i
  cases i with
  | zero =>
    rw [Nat.testBit_xor]
    simp only [Nat.testBit_zero]
    have h0 : x = 0 ∨ x = 1 := by omega
    have h1 : y = 0 ∨ y = 1 := by omega
    rcases h0 with rfl | rfl <;> rcases h1 with rfl | rfl <;> simp <;> omega
  | succ i =>
    rw [Nat.testBit_xor, Nat.testBit_succ, Nat.testBit_succ, Nat.testBit_succ]
    rw [show (2 * (a ^^^ b) + (x ^^^ y)) / 2 = a ^^^ b by omega, show (2 * a + x) / 2 = a by omega, show (2 * b + y) / 2 = b by omega, Nat.testBit_xor]
theorem half_xor (a b : Nat) : (a ^^^ b) / 2 = a / 2 ^^^ b / 2 ∧ (a ^^^ b) % 2 = (a % 2) ^^^ (b % 2) := by
  have h := two_xor (a / 2) (b / 2) (a % 2) (b % 2) (Nat.mod_lt _ (by omega)) (Nat.mod_lt _ (by omega))
  rw [show 2 * (a / 2) + a % 2 = a by omega, show 2 * (b / 2) + b % 2 = b by omega] at h
  have hxy : (a % 2) ^^^ (b % 2) < 2 := Nat.xor_lt_two_pow (n := 1) (Nat.mod_lt _ (by omega)) (Nat.mod_lt _ (by omega))
  omega
theorem pm_xor_aux (g d : Nat) : ∀ n a b : Nat, a < 2 ^ n → b < 2 ^ n → pm g d (a ^^^ b) = pm g d a ^^^ pm g d b := by
  intro n
  induction n with
  | zero =>
    intro a b ha hb
    have h1 : a = 0 := by simpa using ha
    have h2 : b = 0 := by simpa using hb
    subst h1 h2
    simp [pm_zero]
  | succ n ih =>
    intro a b ha hb
    rw [Nat.pow_succ] at ha hb
    rw [pm_eq g d (a ^^^ b), pm_eq g d a, pm_eq g d b, (half_xor a b).1, (half_xor a b).2, ih _ _ (by omega) (by omega), two_xor _ _ _ _ (Nat.mod_lt _ (by omega)) (Nat.mod_lt _ (by omega)), stp_xor]
theorem pm_xor (g d a b : Nat) : pm g d (a ^^^ b) = pm g d a ^^^ pm g d b :=
  pm_xor_aux g d (a + b) a b (Nat.lt_of_le_of_lt (Nat.le_add_right a b) Nat.lt_two_pow_self) (Nat.lt_of_le_of_lt (Nat.le_add_left b a) Nat.lt_two_pow_self)
theorem pm_two (g d n b : Nat) (hb : b < 2) : pm g d (2 * n + b) = stp g d (2 * pm g d n + b) := by
  rw [pm_eq g d (2 * n + b), show (2 * n + b) / 2 = n by omega, show (2 * n + b) % 2 = b by omega]
theorem stp_small {g d t : Nat} (h : t < 2 ^ d) : stp g d t = t := by
  simp [stp, Nat.testBit_lt_two_pow h]
theorem stp_lt {g d t : Nat} (hg : 2 ^ d ≤ g) (hg' : g < 2 ^ (d + 1)) (ht : t < 2 ^ (d + 1)) : stp g d t < 2 ^ d := by
  have top : ∀ x : Nat, x < 2 ^ (d + 1) → ∀ i, d < i → x.testBit i = false := fun x hx i hi =>
    Nat.testBit_lt_two_pow (Nat.lt_of_lt_of_le hx (Nat.pow_le_pow_right (by omega) hi))
  have hgd : g.testBit d = true := by
    rw [Nat.testBit_eq_decide_div_mod_eq]
    have h1 : g / 2 ^ d = 1 := by
      rw [Nat.pow_succ] at hg'
      exact Nat.div_eq_of_lt_le (by omega) (by omega)
    simp [h1]
  apply Nat.lt_pow_two_of_testBit
  intro i hi
  unfold stp
  rw [Nat.testBit_xor]
  by_cases e : i = d
  · subst e
    cases t.testBit i <;> simp [hgd]
  · rw [top t ht i (by omega)]
    split
    · rw [top g hg' i (by omega)]; rfl
    · simp
theorem pm_lt {g d : Nat} (hg : 2 ^ d ≤ g) (hg' : g < 2 ^ (d + 1)) (n : Nat) : pm g d n < 2 ^ d := by
  induction n using Nat.strongRecOn with
  | _ n ih =>
    by_cases h : n = 0
    · subst h; rw [pm_zero]; exact Nat.two_pow_pos d
    · rw [pm_eq]
      have := ih (n / 2) (by omega)
      refine stp_lt hg hg' ?_
      rw [Nat.pow_succ]
      omega
theorem pm_small {g d n : Nat} (h : n < 2 ^ d) : pm g d n = n := by
  induction n using Nat.strongRecOn with
  | _ n ih =>
    by_cases h0 : n = 0
    · subst h0; rw [pm_zero]
    · rw [pm_eq, ih (n / 2) (by omega) (by omega), show 2 * (n / 2) + n % 2 = n by omega, stp_small h]
theorem pm_shift {g d : Nat} (hg : 2 ^ d ≤ g) (hg' : g < 2 ^ (d + 1)) (n c : Nat) : pm g d (n * 2 ^ c) = pm g d (pm g d n * 2 ^ c) := by
  induction c with
  | zero => simp [pm_small (pm_lt hg hg' n)]
  | succ c ih =>
    have e : ∀ m : Nat, m * 2 ^ (c + 1) = 2 * (m * 2 ^ c) + 0 := fun m => by rw [Nat.pow_succ, ← Nat.mul_assoc]; omega
    rw [e n, e (pm g d n), pm_two _ _ _ _ (by omega), pm_two _ _ _ _ (by omega), ih]
/-- A divisor with a constant term: multiplying by x leaves nothing 0 that was not. -/
theorem pm_twice_ne {g d n : Nat} (hodd : g % 2 = 1) (h : pm g d n ≠ 0) : pm g d (2 * n) ≠ 0 := by
  intro h0
  have h1 := pm_two g d n 0 (by omega)
  rw [Nat.add_zero, Nat.add_zero, h0] at h1
  unfold stp at h1
  split at h1
  · have h2 : 2 * pm g d n = g := by
      apply Nat.eq_of_testBit_eq
      intro i
      have := congrArg (fun x => Nat.testBit x i) h1
      simp only [Nat.testBit_xor, Nat.zero_testBit] at this
      cases e1 : (2 * pm g d n).testBit i <;> cases e2 : g.testBit i <;> simp_all
    omega
  · simp at h1
    omega
theorem pm_shift_ne {g d n : Nat} (hodd : g % 2 = 1) (h : pm g d n ≠ 0) (c : Nat) : pm g d (n * 2 ^ c) ≠ 0 := by
  induction c with
  | zero => simpa using h
  | succ c ih =>
    rw [Nat.pow_succ, ← Nat.mul_assoc, Nat.mul_comm _ 2]
    exact pm_twice_ne hodd ih

/-- The number whose n binary digits are f, the first one the highest. -/
def numF (f : Nat → Bool) : Nat → Nat
  | 0 => 0
  | n + 1 => 2 * numF f n + (f n).toNat
theorem toNat_lt2 (b : Bool) : b.toNat < 2 := by cases b <;> simp
theorem numF_lt (f : Nat → Bool) (n : Nat) : numF f n < 2 ^ n := by
  induction n with
  | zero => simp [numF]
  | succ n ih => simp only [numF]; have := toNat_lt2 (f n); rw [Nat.pow_succ]; omega
theorem numF_add (f : Nat → Bool) (n m : Nat) : numF f (n + m) = numF f n * 2 ^ m + numF (fun j => f (n + j)) m := by
  induction m with
  | zero => simp [numF]
  | succ m ih =>
    rw [← Nat.add_assoc]
    simp only [numF]
    rw [ih, Nat.pow_succ, ← Nat.mul_assoc]
    omega
theorem numF_congr {f h : Nat → Bool} {n : Nat} (e : ∀ j, j < n → f j = h j) : numF f n = numF h n := by
  induction n with
  | zero => rfl
  | succ n ih => simp only [numF]; rw [ih (fun j hj => e j (by omega)), e n (by omega)]
theorem numF_xor (f h : Nat → Bool) (n : Nat) : numF (fun j => f j != h j) n = numF f n ^^^ numF h n := by
  induction n with
  | zero => simp [numF]
  | succ n ih =>
    simp only [numF]
    rw [ih, ← two_xor _ _ _ _ (toNat_lt2 _) (toNat_lt2 _)]
    congr 1
    cases f n <;> cases h n <;> rfl
theorem numF_zero {f : Nat → Bool} {n : Nat} (h : ∀ j, j < n → f j = false) : numF f n = 0 := by
  induction n with
  | zero => rfl
  | succ n ih => simp only [numF]; rw [ih (fun j hj => h j (by omega)), h n (by omega)]; rfl
theorem numF_ne {f : Nat → Bool} {n : Nat} (h : numF f n = 0) : ∀ j, j < n → f j = false := by
  induction n with
  | zero => intro j hj; omega
  | succ n ih =>
    simp only [numF] at h
    intro j hj
    by_cases e : j = n
    · subst e
      cases hf : f j
      · rfl
      · rw [hf] at h; simp at h
    · exact ih (by omega) j (by omega)
theorem numF_test (f : Nat → Bool) (n i : Nat) : (numF f n).testBit i = (decide (i < n) && f (n - 1 - i)) := by
  induction n generalizing i with
  | zero => simp [numF]
  | succ n ih =>
    simp only [numF]
    cases i with
    | zero =>
      rw [Nat.testBit_zero, show n + 1 - 1 - 0 = n by omega]
      cases f n
      · simp
      · simp
    | succ i =>
      rw [Nat.testBit_succ, show (2 * numF f n + (f n).toNat) / 2 = numF f n by have := toNat_lt2 (f n); omega, ih]
      rw [show n + 1 - 1 - (i + 1) = n - 1 - i by omega]
      congr 1
      simp only [decide_eq_decide]
      omega
theorem numF_digits {r n : Nat} (h : r < 2 ^ n) : numF (fun k => r.testBit (n - 1 - k)) n = r := by
  apply Nat.eq_of_testBit_eq
  intro i
  rw [numF_test]
  by_cases hi : i < n
  · rw [show n - 1 - (n - 1 - i) = i by omega]; simp [hi]
  · have h3 : r.testBit i = false := Nat.testBit_lt_two_pow (Nat.lt_of_lt_of_le h (Nat.pow_le_pow_right (by omega) (Nat.le_of_not_lt hi)))
    simp [hi, h3]
/-- A number and one that is a multiple of a greater power of two add up as they are put together. -/
theorem add_xor (a b m : Nat) (hb : b < 2 ^ m) : a * 2 ^ m + b = (a * 2 ^ m) ^^^ b := by
  apply Nat.eq_of_testBit_eq
  intro i
  rw [Nat.testBit_xor, Nat.mul_comm a, Nat.testBit_two_pow_mul_add _ hb, Nat.testBit_two_pow_mul]
  by_cases h : i < m
  · simp [h, show ¬ m ≤ i by omega]
  · rw [Nat.testBit_lt_two_pow (Nat.lt_of_lt_of_le hb (Nat.pow_le_pow_right (by omega) (Nat.le_of_not_lt h)))]
    simp [h, Nat.le_of_not_lt h]

/-- The entry of the table of remainders. -/
def tab (g d n : Nat) : Nat := pm g d (n * 2 ^ d)
theorem tab_zero (g d : Nat) : tab g d 0 = 0 := by simp [tab, pm_zero]
theorem pm_pow (g d : Nat) (hd : 1 ≤ d) : pm g d (2 ^ d) = stp g d (2 ^ d) := by
  obtain ⟨e, rfl⟩ : ∃ e, d = e + 1 := ⟨d - 1, by omega⟩
  have h := pm_two g (e + 1) (2 ^ e) 0 (by omega)
  rw [pm_small (Nat.pow_lt_pow_right (by omega) (by omega))] at h
  rw [Nat.pow_succ, Nat.mul_comm]
  simpa using h
theorem tab_step {g d : Nat} (hd : 1 ≤ d) (m b : Nat) (hb : b < 2) : tab g d (2 * m + b) = stp g d ((2 * tab g d m) ^^^ (b * 2 ^ d)) := by
  have e : (2 * m + b) * 2 ^ d = (2 * (m * 2 ^ d) + 0) ^^^ (b * 2 ^ d) := by
    apply Nat.eq_of_testBit_eq
    intro i
    rw [Nat.testBit_xor, Nat.add_zero, ← Nat.mul_assoc, Nat.mul_comm _ (2 ^ d), Nat.mul_comm _ (2 ^ d), Nat.mul_comm _ (2 ^ d), Nat.testBit_two_pow_mul, Nat.testBit_two_pow_mul, Nat.testBit_two_pow_mul]
    have h0 : b = 0 ∨ b = 1 := by omega
    by_cases h : d ≤ i
    · simp only [h, decide_true, Bool.true_and]
      rw [← Nat.testBit_xor]
      congr 1
      have := two_xor m 0 0 b (by omega) hb
      simpa using this
    · simp [h]
  unfold tab
  rw [e, pm_xor, pm_two _ _ _ _ (by omega), stp_xor, Nat.add_zero]
  congr 1
  have h0 : b = 0 ∨ b = 1 := by omega
  rcases h0 with rfl | rfl
  · simp [pm_zero, stp_zero]
  · simpa using pm_pow g d hd
theorem tab_xor (g d a b : Nat) : tab g d (a ^^^ b) = tab g d a ^^^ tab g d b := by
  unfold tab
  rw [← pm_xor]
  congr 1
  apply Nat.eq_of_testBit_eq
  intro i
  rw [Nat.testBit_xor, Nat.mul_comm _ (2 ^ d), Nat.mul_comm _ (2 ^ d), Nat.mul_comm _ (2 ^ d), Nat.testBit_two_pow_mul, Nat.testBit_two_pow_mul, Nat.testBit_two_pow_mul, Nat.testBit_xor]
  cases decide (d ≤ i) <;> simp
/-- c digits more at once. -/
theorem tab_more {g d : Nat} (hg : 2 ^ d ≤ g) (hg' : g < 2 ^ (d + 1)) (n v c : Nat) (hv : v < 2 ^ c) :
    tab g d (n * 2 ^ c + v) = (tab g d n * 2 ^ c) % 2 ^ d ^^^ tab g d ((tab g d n * 2 ^ c) / 2 ^ d ^^^ v) := by
  rw [add_xor _ _ _ hv, tab_xor, tab_xor, ← Nat.xor_assoc]
  congr 1
  have h1 : tab g d (n * 2 ^ c) = pm g d (tab g d n * 2 ^ c) := by
    unfold tab
    rw [Nat.mul_assoc, Nat.mul_comm (2 ^ c), ← Nat.mul_assoc, pm_shift hg hg']
  rw [h1]
  generalize tab g d n * 2 ^ c = s
  have h2 : s = (s / 2 ^ d) * 2 ^ d ^^^ s % 2 ^ d := by
    rw [← add_xor _ _ _ (Nat.mod_lt _ (Nat.two_pow_pos d)), Nat.mul_comm]; exact (Nat.div_add_mod s (2 ^ d)).symm
  rw [show pm g d s = pm g d ((s / 2 ^ d) * 2 ^ d ^^^ s % 2 ^ d) by rw [← h2], pm_xor, Nat.xor_comm, pm_small (Nat.mod_lt _ (Nat.two_pow_pos d))]
  rfl
end Go.Proofs.Ytmolpeemifngcaa
