/-
  The permutation of a table that is written row by row and read column by column; how many numbers of a burst lie in a row; plain mathematics. No condition.
-/
import Derived.Test.YtmhngakfjlkchaaDoorLawMath
import Derived.Test.YtmhngakfjlkchaaDoorNibMath
namespace Go.Proofs.YtmhngakfjlkchaaDoor

/-- Where number k of the list that is read lies in the list that is written: a table of R rows and C columns. -/
def pm8 (R C k : Nat) : Nat := k % R * C + k / R
theorem pm8_lt {R C k : Nat} (h : k < R * C) : pm8 R C k < R * C := by
  have hR : 0 < R := by
    rcases Nat.eq_zero_or_pos R with e | e
    · subst e; simp at h
    · exact e
  have h1 : k % R < R := Nat.mod_lt _ hR
  have h2 : k / R < C := Nat.div_lt_of_lt_mul h
  have h3 : (k % R + 1) * C ≤ R * C := Nat.mul_le_mul_right C h1
  rw [Nat.add_mul, Nat.one_mul] at h3
  unfold pm8
  omega
theorem pm8_at {R C q d : Nat} (hq : q < R) : pm8 R C (d * R + q) = q * C + d := by
  unfold pm8
  rw [Nat.mul_comm d R, Nat.mul_add_mod, Nat.mod_eq_of_lt hq, Nat.mul_add_div (by omega), Nat.div_eq_of_lt hq, Nat.add_zero]
theorem pm8_back {R C k : Nat} (h : k < R * C) : pm8 R C (pm8 C R k) = k := by
  have hC : 0 < C := by
    rcases Nat.eq_zero_or_pos C with e | e
    · subst e; simp at h
    · exact e
  have h2 : k / C < R := Nat.div_lt_of_lt_mul (by rw [Nat.mul_comm]; exact h)
  show pm8 R C (k % C * R + k / C) = k
  rw [pm8_at h2, Nat.mul_comm]
  exact Nat.div_add_mod k C
theorem pm8_div {R C k : Nat} (h : k < R * C) : pm8 R C k / C = k % R := by
  have hC : 0 < C := by
    rcases Nat.eq_zero_or_pos C with e | e
    · subst e; simp at h
    · exact e
  have h2 : k / R < C := Nat.div_lt_of_lt_mul h
  unfold pm8
  rw [Nat.mul_comm, Nat.mul_add_div hC, Nat.div_eq_of_lt h2, Nat.add_zero]

/-- The list xs, written into a table of R rows and C columns, and read. -/
def ilv (xs : List Int) (R C : Nat) : List Int := (List.range xs.length).map fun k => el xs (pm8 R C k)
theorem ilv_length (xs : List Int) (R C : Nat) : (ilv xs R C).length = xs.length := by simp [ilv]
theorem ilv_el {xs : List Int} {R C k : Nat} (h : k < xs.length) : el (ilv xs R C) k = el xs (pm8 R C k) := by simp [ilv, el, h]
theorem ilv_back {xs : List Int} {R C : Nat} (h : xs.length = R * C) : ilv (ilv xs R C) C R = xs := by
  refine list_ext (by rw [ilv_length, ilv_length]) fun k hk => ?_
  rw [ilv_length, ilv_length] at hk
  have hk2 : k < C * R := by rw [Nat.mul_comm, ← h]; exact hk
  have h3 : pm8 C R k < xs.length := by rw [h, Nat.mul_comm R C]; exact pm8_lt hk2
  rw [ilv_el (by rw [ilv_length]; exact hk), ilv_el h3, pm8_back (by rw [← h]; exact hk)]
theorem ilv_one (xs : List Int) (C : Nat) : ilv xs 1 C = xs := by
  refine list_ext (ilv_length _ _ _) fun k hk => ?_
  rw [ilv_length] at hk
  rw [ilv_el hk]
  simp [pm8, Nat.mod_one]
theorem ilv_bits {xs : List Int} {R C : Nat} (hb : xs.all isBit = true) (h : xs.length = R * C) : (ilv xs R C).all isBit = true := by
  rw [List.all_eq_true] at hb ⊢
  intro x hx
  simp only [ilv, List.mem_map, List.mem_range] at hx
  obtain ⟨k, hk, rfl⟩ := hx
  exact hb _ (el_mem (by rw [h]; exact pm8_lt (by rw [← h]; exact hk)))

/-- A list that can be interleaved with r rows. -/
def tabOk (xs : List Int) (r : Int) : Bool := decide (1 ≤ r ∧ r ≤ 32) && bitsOk xs && decide (xs.length % r.toNat = 0)
theorem tabOk_parts {xs : List Int} {r : Int} (h : tabOk xs r = true) : ∃ R C : Nat, r = (R : Int) ∧ (1 ≤ R ∧ R ≤ 32) ∧ bitsOk xs = true ∧ xs.length = R * C ∧ xs.length / R = C := by
  simp only [tabOk, Bool.and_eq_true, decide_eq_true_eq] at h
  obtain ⟨⟨⟨h1, h2⟩, h3⟩, h4⟩ := h
  refine ⟨r.toNat, xs.length / r.toNat, by omega, ⟨by omega, by omega⟩, h3, ?_, rfl⟩
  rw [Nat.mul_div_cancel' (Nat.dvd_of_mod_eq_zero h4)]
theorem tabOk_mk {xs : List Int} {R C : Nat} (h1 : 1 ≤ R) (h2 : R ≤ 32) (h3 : bitsOk xs = true) (h4 : xs.length = R * C) : tabOk xs (R : Int) = true := by
  have e : xs.length % R = 0 := by rw [h4]; exact Nat.mul_mod_right R C
  simp [tabOk, h3, e]
  omega
/-- What InterleaveBits and DeinterleaveBits answer. -/
def ilvOr (xs : List Int) (r : Int) : List Int := if tabOk xs r then ilv xs r.toNat (xs.length / r.toNat) else []
def dlvOr (xs : List Int) (r : Int) : List Int := if tabOk xs r then ilv xs (xs.length / r.toNat) r.toNat else []
theorem ilvOr_no {xs : List Int} {r : Int} (h : tabOk xs r = false) : ilvOr xs r = [] := by simp [ilvOr, h]
theorem dlvOr_no {xs : List Int} {r : Int} (h : tabOk xs r = false) : dlvOr xs r = [] := by simp [dlvOr, h]
theorem ilvOr_yes {xs : List Int} {R C : Nat} (h : tabOk xs (R : Int) = true) (hc : xs.length / R = C) : ilvOr xs (R : Int) = ilv xs R C := by simp [ilvOr, h, hc]
theorem dlvOr_yes {xs : List Int} {R C : Nat} (h : tabOk xs (R : Int) = true) (hc : xs.length / R = C) : dlvOr xs (R : Int) = ilv xs C R := by simp [dlvOr, h, hc]
theorem ilvOr_length (xs : List Int) (r : Int) : (ilvOr xs r).length ≤ 1024 := by
  unfold ilvOr; split
  · next h =>
    obtain ⟨R, C, _, _, hb, _⟩ := tabOk_parts h
    rw [ilv_length]; exact bitsOk_length hb
  · simp
theorem dlvOr_length (xs : List Int) (r : Int) : (dlvOr xs r).length ≤ 1024 := by
  unfold dlvOr; split
  · next h =>
    obtain ⟨R, C, _, _, hb, _⟩ := tabOk_parts h
    rw [ilv_length]; exact bitsOk_length hb
  · simp
theorem ilv_ok {xs : List Int} {R C : Nat} (h : bitsOk xs = true) (hl : xs.length = R * C) : bitsOk (ilv xs R C) = true :=
  bitsOk_mk (ilv_bits (bitsOk_all h) hl) (by rw [ilv_length]; exact bitsOk_length h)

/-- Sums. -/
def sm8 (f : Nat → Nat) : Nat → Nat
  | 0 => 0
  | n + 1 => sm8 f n + f n
theorem sm8_congr {f g : Nat → Nat} : ∀ n, (∀ i, i < n → f i = g i) → sm8 f n = sm8 g n
  | 0, _ => rfl
  | n + 1, h => by rw [sm8, sm8, sm8_congr n (fun i hi => h i (by omega)), h n (by omega)]
theorem sm8_add (f g : Nat → Nat) : ∀ n, sm8 (fun i => f i + g i) n = sm8 f n + sm8 g n
  | 0 => rfl
  | n + 1 => by rw [sm8, sm8, sm8, sm8_add f g n]; omega
theorem sm8_zero : ∀ n, sm8 (fun _ => 0) n = 0
  | 0 => rfl
  | n + 1 => by rw [sm8, sm8_zero n]
theorem sm8_swap (g : Nat → Nat → Nat) (C : Nat) : ∀ R, sm8 (fun r => sm8 (fun c => g r c) C) R = sm8 (fun c => sm8 (fun r => g r c) R) C
  | 0 => (sm8_zero C).symm
  | R + 1 => by rw [sm8, sm8_swap g C R, ← sm8_add]; rfl
theorem cnt_sm (F : Nat → Bool) : ∀ n, cnt F n = sm8 (fun i => (F i).toNat) n
  | 0 => rfl
  | n + 1 => by rw [sm8, ← cnt_sm F n]; rfl
theorem cnt_blocks (F : Nat → Bool) (C : Nat) : ∀ R, cnt F (R * C) = sm8 (fun r => sm8 (fun c => (F (r * C + c)).toNat) C) R
  | 0 => by rw [Nat.zero_mul]; rfl
  | R + 1 => by rw [Nat.add_mul, Nat.one_mul, cnt_add, cnt_blocks F C R, sm8, cnt_sm]
/-- The permutation does not change how many numbers have a property. -/
theorem cnt_pm8 (F : Nat → Bool) (R C : Nat) : cnt (fun k => F (pm8 R C k)) (R * C) = cnt F (R * C) := by
  rw [Nat.mul_comm R C, cnt_blocks _ R C, Nat.mul_comm C R, cnt_blocks F C R, sm8_swap]
  refine sm8_congr R fun r hr => sm8_congr C fun c _ => ?_
  rw [pm8_at hr]
theorem dist_ilv {xs : List Int} {R C : Nat} (h : xs.length = R * C) : dist (ilv xs R C) (zeros xs.length) = dist xs (zeros xs.length) := by
  unfold dist
  rw [ilv_length]
  have e1 : cnt (xorF (ilv xs R C) (zeros xs.length)) xs.length = cnt (fun k => xorF xs (zeros xs.length) (pm8 R C k)) xs.length := cnt_congr fun k hk => by
    rw [xorF_at (by rw [ilv_length]; exact hk), xorF_at (by rw [h]; exact pm8_lt (by rw [← h]; exact hk)), ilv_el hk, zeros_el, zeros_el]
  rw [e1]
  have e2 := cnt_pm8 (xorF xs (zeros xs.length)) R C
  rw [← h] at e2
  exact e2

/-- How many of the numbers of a burst of m from at on lie in row r of R. -/
def cr8 (R a r : Nat) : Nat → Nat
  | 0 => 0
  | m + 1 => cr8 R a r m + if (a + m) % R = r then 1 else 0
/-- Rounded up. -/
def up8 (R m : Nat) : Nat := (m + R - 1) / R
theorem up8_zero {R : Nat} (h : 1 ≤ R) : up8 R 0 = 0 := Nat.div_eq_of_lt (by omega)
theorem up8_succ {R m : Nat} (h : 1 ≤ R) : up8 R (m + 1) = m / R + 1 := by
  unfold up8
  rw [show m + 1 + R - 1 = m + R by omega, Nat.add_div_right _ h]
theorem up8_le {R m : Nat} (h : 1 ≤ R) : up8 R m ≤ m / R + 1 := by
  unfold up8
  rw [← Nat.add_div_right _ h]
  exact Nat.div_le_div_right (by omega)
theorem up8_mono {R m : Nat} : up8 R m ≤ up8 R (m + 1) := Nat.div_le_div_right (by omega)
theorem up8_eq {R : Nat} (h : 1 ≤ R) (m : Nat) : up8 R m = m / R + if 0 < m % R then 1 else 0 := by
  have e := Nat.div_add_mod m R
  have hs : m % R < R := Nat.mod_lt _ h
  generalize m / R = q at *
  generalize m % R = s at *
  subst e
  unfold up8
  by_cases h0 : 0 < s
  · rw [if_pos h0, show R * q + s + R - 1 = R * (q + 1) + (s - 1) by rw [Nat.mul_add]; omega, Nat.mul_add_div h, Nat.div_eq_of_lt (by omega)]
  · rw [if_neg h0, show R * q + s + R - 1 = R * q + (R - 1) by omega, Nat.mul_add_div h, Nat.div_eq_of_lt (by omega)]
theorem cr8_split (R a r m : Nat) : ∀ n, cr8 R a r (m + n) = cr8 R a r m + cr8 R (a + m) r n
  | 0 => rfl
  | n + 1 => by rw [← Nat.add_assoc, cr8, cr8_split R a r m n, cr8, Nat.add_assoc a m n, Nat.add_assoc]
theorem cr8_per (R a r : Nat) : ∀ n, cr8 R (a + R) r n = cr8 R a r n
  | 0 => rfl
  | n + 1 => by rw [cr8, cr8, cr8_per R a r n, show a + R + n = a + n + R by omega, Nat.add_mod_right]
theorem mod_inj8 {R a s i : Nat} (hs : s < R) (hi : i < R) (h : (a + s) % R = (a + i) % R) : s = i := by
  have h1 := Nat.sub_mod_eq_zero_of_mod_eq h
  have h2 := Nat.sub_mod_eq_zero_of_mod_eq h.symm
  rw [Nat.mod_eq_of_lt (by omega)] at h1 h2
  omega
theorem cr8_small {R a d : Nat} (hd : d < R) : ∀ s, s ≤ R → cr8 R a ((a + d) % R) s = if d < s then 1 else 0
  | 0, _ => rfl
  | s + 1, h => by
    rw [cr8, cr8_small hd s (by omega)]
    by_cases e : s = d
    · subst e; simp
    · have hne : (a + s) % R ≠ (a + d) % R := fun h2 => e (mod_inj8 (by omega) hd h2)
      rw [if_neg hne]
      by_cases h3 : d < s
      · rw [if_pos h3, if_pos (by omega)]
      · rw [if_neg h3, if_neg (by omega)]
theorem cr8_q {R a d s : Nat} (hd : d < R) : ∀ q, cr8 R a ((a + d) % R) (R * q + s) = q + cr8 R a ((a + d) % R) s
  | 0 => by simp
  | q + 1 => by
    rw [show R * (q + 1) + s = R + (R * q + s) by rw [Nat.mul_add]; omega, cr8_split, cr8_per, cr8_q hd q, cr8_small hd R (Nat.le_refl _), if_pos hd]
    omega
theorem cr8_eq {R a d : Nat} (hd : d < R) (m : Nat) : cr8 R a ((a + d) % R) m = m / R + if d < m % R then 1 else 0 := by
  have hs : m % R < R := Nat.mod_lt _ (by omega)
  have e := Nat.div_add_mod m R
  generalize m / R = q at *
  generalize m % R = s at *
  rw [← e, cr8_q hd, cr8_small hd s (by omega)]
theorem off8 {R a r : Nat} (hr : r < R) : ∃ d, d < R ∧ (a + d) % R = r := by
  have e := Nat.div_add_mod a R
  have hb : a % R < R := Nat.mod_lt _ (by omega)
  generalize a / R = q at *
  generalize a % R = b at *
  by_cases h : b ≤ r
  · refine ⟨r - b, by omega, ?_⟩
    rw [← e, show R * q + b + (r - b) = R * q + r by omega, Nat.mul_add_mod, Nat.mod_eq_of_lt hr]
  · refine ⟨r + R - b, by omega, ?_⟩
    rw [← e, show R * q + b + (r + R - b) = R * (q + 1) + r by rw [Nat.mul_add]; omega, Nat.mul_add_mod, Nat.mod_eq_of_lt hr]
/-- The row that the next number lies in has been counted m / R times; no row more often than m / R rounded up; row a % R as often. -/
theorem cr8_next {R : Nat} (h : 1 ≤ R) (a m : Nat) : cr8 R a ((a + m) % R) m = m / R := by
  have hd : m % R < R := Nat.mod_lt _ h
  have := cr8_eq (a := a) hd m
  rw [Nat.add_mod_mod] at this
  rw [this, if_neg (Nat.lt_irrefl _), Nat.add_zero]
theorem cr8_le {R r : Nat} (hr : r < R) (a m : Nat) : cr8 R a r m ≤ up8 R m := by
  obtain ⟨d, hd, rfl⟩ := off8 (a := a) hr
  rw [cr8_eq hd, up8_eq (by omega)]
  split <;> split <;> omega
theorem cr8_first {R : Nat} (h : 1 ≤ R) (a m : Nat) : cr8 R a (a % R) m = up8 R m := by
  have := cr8_eq (a := a) (show 0 < R from h) m
  rw [Nat.add_zero] at this
  rw [this, up8_eq h]
theorem cr8_far {R r : Nat} (hR : 1 ≤ R) (hr : R ≤ r) (a : Nat) : ∀ m, cr8 R a r m = 0
  | 0 => rfl
  | m + 1 => by
    have : (a + m) % R < R := Nat.mod_lt _ hR
    rw [cr8, cr8_far hR hr a m, if_neg (by omega)]
theorem up8_step {R : Nat} (h : 1 ≤ R) (m : Nat) : max (up8 R m) (m / R + 1) = up8 R (m + 1) := by
  have := up8_le (m := m) h
  rw [up8_succ h]
  omega
theorem up8_bound {R : Nat} (h : 1 ≤ R) (m : Nat) : up8 R m ≤ m := by
  rw [up8_eq h]
  have e := Nat.div_add_mod m R
  have h1 : 1 * (m / R) ≤ R * (m / R) := Nat.mul_le_mul_right _ h
  split <;> omega

/-- A burst that BurstSpread takes; what it answers. -/
def brOk (r c a n : Int) : Bool := decide ((1 ≤ r ∧ r ≤ 32) ∧ (1 ≤ c ∧ c ≤ 32) ∧ (0 ≤ a ∧ a ≤ r * c) ∧ 0 ≤ n ∧ n ≤ r * c - a)
def brOr (r c a n : Int) : Int := if brOk r c a n then ((up8 r.toNat n.toNat : Nat) : Int) else -1
theorem brOr_yes {R C A M : Nat} (h : brOk R C A M = true) : brOr R C A M = ((up8 R M : Nat) : Int) := by simp [brOr, h]
theorem brOr_no {r c a n : Int} (h : brOk r c a n = false) : brOr r c a n = -1 := by simp [brOr, h]
theorem brOk_parts {r c a n : Int} (h : brOk r c a n = true) : ∃ R C A M : Nat, r = (R : Int) ∧ c = (C : Int) ∧ a = (A : Int) ∧ n = (M : Int) ∧ (1 ≤ R ∧ R ≤ 32) ∧ (1 ≤ C ∧ C ≤ 32) ∧ A + M ≤ R * C := by
  simp only [brOk, decide_eq_true_eq] at h
  obtain ⟨⟨h1, h2⟩, ⟨h3, h4⟩, ⟨h5, h6⟩, h7, h8⟩ := h
  obtain ⟨R, rfl⟩ := Int.eq_ofNat_of_zero_le (show 0 ≤ r by omega)
  obtain ⟨C, rfl⟩ := Int.eq_ofNat_of_zero_le (show 0 ≤ c by omega)
  obtain ⟨A, rfl⟩ := Int.eq_ofNat_of_zero_le h5
  obtain ⟨M, rfl⟩ := Int.eq_ofNat_of_zero_le h7
  rw [← Int.natCast_mul] at h6 h8
  have h9 : A + M ≤ R * C := by omega
  exact ⟨R, C, A, M, rfl, rfl, rfl, rfl, ⟨by omega, by omega⟩, ⟨by omega, by omega⟩, h9⟩
end Go.Proofs.YtmhngakfjlkchaaDoor
