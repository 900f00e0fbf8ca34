/-
  The field with 16 elements as natural numbers below 16: sums, products, inverses, powers, values and zeros of polynomials; plain mathematics, the small cases by the kernel. Condition: the numbers are below 16, where a lemma says so.
-/
import Derived.Test.YtkeeijkjemcbcaaBase
namespace Go.Proofs.Ytkeeijkjemcbcaa
open Go.RowKit

/-- The program's tables. -/
def powL : List Int := [1, 2, 4, 8, 3, 6, 12, 11, 5, 10, 7, 14, 15, 13, 9]
def logL : List Int := [0, 0, 1, 4, 2, 8, 5, 10, 3, 14, 9, 7, 6, 13, 11, 12]
def powN (i : Nat) : Nat := (el powL i).toNat
def logN (a : Nat) : Nat := (el logL a).toNat
theorem powN_el {i : Nat} (h : i < 15) : el powL i = (powN i : Int) := by
  have : ∀ i, i < 15 → el powL i = (powN i : Int) := by decide +kernel
  exact this i h
theorem logN_el {a : Nat} (h : a < 16) : el logL a = (logN a : Int) := by
  have : ∀ a, a < 16 → el logL a = (logN a : Int) := by decide +kernel
  exact this a h
theorem powN_lt {i : Nat} (h : i < 15) : powN i < 16 := by
  have : ∀ i, i < 15 → powN i < 16 := by decide +kernel
  exact this i h
theorem logN_lt {a : Nat} (h : a < 16) : logN a < 15 := by
  have : ∀ a, a < 16 → logN a < 15 := by decide +kernel
  exact this a h
/-- The product of two elements. -/
def fmul (a b : Nat) : Nat := if a = 0 ∨ b = 0 then 0 else powN ((logN a + logN b) % 15)
theorem fmul_no {a b : Nat} (h : a = 0 ∨ b = 0) : fmul a b = 0 := by simp [fmul, h]
theorem fmul_yes {a b : Nat} (ha : a ≠ 0) (hb : b ≠ 0) : fmul a b = powN ((logN a + logN b) % 15) := by simp [fmul, ha, hb]
theorem fmul_lt {a b : Nat} (ha : a < 16) (hb : b < 16) : fmul a b < 16 := by
  have : ∀ a, a < 16 → ∀ b, b < 16 → fmul a b < 16 := by decide +kernel
  exact this a ha b hb
theorem xor_lt {a b : Nat} (ha : a < 16) (hb : b < 16) : a ^^^ b < 16 := Nat.xor_lt_two_pow (n := 4) ha hb
theorem xor_eq {a b : Nat} (ha : a < 16) (hb : b < 16) (h : a ^^^ b = 0) : a = b := by
  have : ∀ a, a < 16 → ∀ b, b < 16 → a ^^^ b = 0 → a = b := by decide +kernel
  exact this a ha b hb h
theorem fmul_comm {a b : Nat} (ha : a < 16) (hb : b < 16) : fmul a b = fmul b a := by
  have : ∀ a, a < 16 → ∀ b, b < 16 → fmul a b = fmul b a := by decide +kernel
  exact this a ha b hb
theorem fmul_assoc {a b c : Nat} (ha : a < 16) (hb : b < 16) (hc : c < 16) : fmul (fmul a b) c = fmul a (fmul b c) := by
  have : ∀ a, a < 16 → ∀ b, b < 16 → ∀ c, c < 16 → fmul (fmul a b) c = fmul a (fmul b c) := by decide +kernel
  exact this a ha b hb c hc
theorem fmul_sum {a b c : Nat} (ha : a < 16) (hb : b < 16) (hc : c < 16) : fmul a (b ^^^ c) = fmul a b ^^^ fmul a c := by
  have : ∀ a, a < 16 → ∀ b, b < 16 → ∀ c, c < 16 → fmul a (b ^^^ c) = fmul a b ^^^ fmul a c := by decide +kernel
  exact this a ha b hb c hc
theorem fmul_zero {a b : Nat} (ha : a < 16) (hb : b < 16) : fmul a b = 0 ↔ a = 0 ∨ b = 0 := by
  have : ∀ a, a < 16 → ∀ b, b < 16 → (fmul a b = 0 ↔ a = 0 ∨ b = 0) := by decide +kernel
  exact this a ha b hb
theorem fmul_one {a : Nat} (ha : a < 16) : fmul a 1 = a := by
  have : ∀ a, a < 16 → fmul a 1 = a := by decide +kernel
  exact this a ha
theorem fmul_z (a : Nat) : fmul a 0 = 0 := fmul_no (.inr rfl)
theorem z_fmul (a : Nat) : fmul 0 a = 0 := fmul_no (.inl rfl)
theorem square_sum {a b : Nat} (ha : a < 16) (hb : b < 16) : fmul (a ^^^ b) (a ^^^ b) = fmul a a ^^^ fmul b b := by
  have : ∀ a, a < 16 → ∀ b, b < 16 → fmul (a ^^^ b) (a ^^^ b) = fmul a a ^^^ fmul b b := by decide +kernel
  exact this a ha b hb

/-- The model's step: twice an element. -/
def twice (a : Nat) : Nat := if 16 ≤ 2 * a then (2 * a) ^^^ 19 else 2 * a
theorem twice_lt {a : Nat} (ha : a < 16) : twice a < 16 := by
  have : ∀ a, a < 16 → twice a < 16 := by decide +kernel
  exact this a ha
theorem fmul_odd {a b : Nat} (ha : a < 16) (hb : b < 16) (ho : b % 2 = 1) : fmul a b = a ^^^ fmul (twice a) (b / 2) := by
  have : ∀ a, a < 16 → ∀ b, b < 16 → b % 2 = 1 → fmul a b = a ^^^ fmul (twice a) (b / 2) := by decide +kernel
  exact this a ha b hb ho
theorem fmul_even {a b : Nat} (ha : a < 16) (hb : b < 16) (ho : b % 2 = 0) : fmul a b = fmul (twice a) (b / 2) := by
  have : ∀ a, a < 16 → ∀ b, b < 16 → b % 2 = 0 → fmul a b = fmul (twice a) (b / 2) := by decide +kernel
  exact this a ha b hb ho

/-- The inverse of an element; 0 of 0. -/
def finv (a : Nat) : Nat := if a = 0 then 0 else powN ((15 - logN a) % 15)
theorem finv_lt {a : Nat} (ha : a < 16) : finv a < 16 := by
  have : ∀ a, a < 16 → finv a < 16 := by decide +kernel
  exact this a ha
theorem finv_pos {a : Nat} (ha : a < 16) (h1 : 1 ≤ a) : 1 ≤ finv a := by
  have : ∀ a, a < 16 → 1 ≤ a → 1 ≤ finv a := by decide +kernel
  exact this a ha h1
theorem finv_mul {a : Nat} (ha : a < 16) (h1 : 1 ≤ a) : fmul a (finv a) = 1 := by
  have : ∀ a, a < 16 → 1 ≤ a → fmul a (finv a) = 1 := by decide +kernel
  exact this a ha h1
theorem finv_one {a b : Nat} (ha : a < 16) (hb : b < 16) (h : fmul a b = 1) : b = finv a := by
  have : ∀ a, a < 16 → ∀ b, b < 16 → fmul a b = 1 → b = finv a := by decide +kernel
  exact this a ha b hb h
theorem finv_inv {a : Nat} (ha : a < 16) : finv (finv a) = a := by
  have : ∀ a, a < 16 → finv (finv a) = a := by decide +kernel
  exact this a ha

/-- The power of an element. -/
def fpow (a n : Nat) : Nat := if n = 0 then 1 else if a = 0 then 0 else powN (logN a * n % 15)
theorem fpow_zero (a : Nat) : fpow a 0 = 1 := rfl
theorem fpow_lt {a : Nat} (n : Nat) : fpow a n < 16 := by
  unfold fpow
  split
  · omega
  · split
    · omega
    · exact powN_lt (Nat.mod_lt _ (by omega))
theorem pow_step {i a : Nat} (hi : i < 15) (ha : a < 16) (h1 : a ≠ 0) : fmul (powN i) a = powN ((i + logN a) % 15) := by
  have : ∀ i, i < 15 → ∀ a, a < 16 → a ≠ 0 → fmul (powN i) a = powN ((i + logN a) % 15) := by decide +kernel
  exact this i hi a ha h1
theorem fpow_succ {a : Nat} (n : Nat) (ha : a < 16) : fpow a (n + 1) = fmul (fpow a n) a := by
  by_cases h0 : a = 0
  · subst h0; rw [fmul_z]; simp [fpow]
  · by_cases hn : n = 0
    · subst hn
      have : ∀ a, a < 16 → a ≠ 0 → fpow a (0 + 1) = fmul (fpow a 0) a := by decide +kernel
      exact this a ha h0
    · have e : fpow a n = powN (logN a * n % 15) := by simp [fpow, hn, h0]
      rw [e, pow_step (Nat.mod_lt _ (by omega)) ha h0]
      simp only [fpow, h0, if_false, Nat.succ_ne_zero]
      congr 1
      rw [Nat.mul_succ]
      omega
theorem fpow_order {a : Nat} (ha : a < 16) (h1 : 1 ≤ a) : fpow a 15 = 1 := by
  have : ∀ a, a < 16 → 1 ≤ a → fpow a 15 = 1 := by decide +kernel
  exact this a ha h1
theorem fpow_inv {a : Nat} (ha : a < 16) (h1 : 1 ≤ a) : fpow a 14 = finv a := by
  have : ∀ a, a < 16 → 1 ≤ a → fpow a 14 = finv a := by decide +kernel
  exact this a ha h1
/-- How many of the first k powers of 2 are a number. -/
def gens (a : Int) : Nat → Nat
  | 0 => 0
  | k + 1 => if (fpow 2 k : Int) = a then gens a k + 1 else gens a k
theorem gens_le (a : Int) : ∀ k, gens a k ≤ k
  | 0 => Nat.le_refl _
  | k + 1 => by
    have := gens_le a k
    simp only [gens]
    split <;> omega
theorem gens_all {a : Int} (h0 : -1 ≤ a) (h1 : a ≤ 16) : gens a 15 = if 1 ≤ a ∧ a < 16 then 1 else 0 := by
  have h : ∀ k : Nat, k < 18 → gens ((k : Int) - 1) 15 = if 1 ≤ (k : Int) - 1 ∧ (k : Int) - 1 < 16 then 1 else 0 := by decide +kernel
  have := h (a + 1).toNat (by omega)
  rwa [show (((a + 1).toNat : Nat) : Int) - 1 = a by omega] at this

/-- The value of a polynomial's first k coefficients, the highest power first. -/
def pol (c : Nat → Nat) (x : Nat) : Nat → Nat
  | 0 => 0
  | k + 1 => fmul (pol c x k) x ^^^ c k
theorem pol_lt {c : Nat → Nat} {x : Nat} (hx : x < 16) : ∀ k, (∀ i, i < k → c i < 16) → pol c x k < 16
  | 0, _ => by simp [pol]
  | k + 1, h => xor_lt (fmul_lt (pol_lt hx k fun i hi => h i (by omega)) hx) (h k (by omega))
theorem pol_congr {c d : Nat → Nat} {x : Nat} : ∀ k, (∀ i, i < k → c i = d i) → pol c x k = pol d x k
  | 0, _ => rfl
  | k + 1, h => by rw [pol, pol, pol_congr k fun i hi => h i (by omega), h k (by omega)]
theorem pol_at0 (c : Nat → Nat) (k : Nat) : pol c 0 (k + 1) = c k := by rw [pol, fmul_z, Nat.zero_xor]
/-- The coefficients of the quotient by the factor with the zero r. -/
def quo (c : Nat → Nat) (r : Nat) : Nat → Nat := fun k => pol c r (k + 1)
theorem xor_cancel (a b c d : Nat) : (a ^^^ b) ^^^ c = (a ^^^ (b ^^^ d)) ^^^ (d ^^^ c) := Nat.eq_of_testBit_eq fun i => by
  simp only [Nat.testBit_xor]
  cases a.testBit i <;> cases b.testBit i <;> cases c.testBit i <;> cases d.testBit i <;> rfl
theorem pol_quo {c : Nat → Nat} {x r : Nat} (hx : x < 16) (hr : r < 16) : ∀ k, (∀ i, i < k + 1 → c i < 16) → pol c x (k + 1) = fmul (x ^^^ r) (pol (quo c r) x k) ^^^ pol c r (k + 1)
  | 0, _ => by simp [pol, z_fmul, fmul_z]
  | k + 1, h => by
    have hc : ∀ i, i < k + 1 → c i < 16 := fun i hi => h i (by omega)
    have ih := pol_quo hx hr k hc
    have hq : pol (quo c r) x k < 16 := pol_lt hx k fun i hi => pol_lt hr (i + 1) fun j hj => h j (by omega)
    have hp : pol c r (k + 1) < 16 := pol_lt hr (k + 1) hc
    have hxr := xor_lt hx hr
    rw [pol, ih]
    show fmul (fmul (x ^^^ r) (pol (quo c r) x k) ^^^ pol c r (k + 1)) x ^^^ c (k + 1) = fmul (x ^^^ r) (fmul (pol (quo c r) x k) x ^^^ pol c r (k + 1)) ^^^ (fmul (pol c r (k + 1)) r ^^^ c (k + 1))
    generalize pol c r (k + 1) = P at *
    generalize pol (quo c r) x k = Q at *
    rw [fmul_comm (xor_lt (fmul_lt hxr hq) hp) hx, fmul_sum hx (fmul_lt hxr hq) hp, fmul_comm hx (fmul_lt hxr hq), fmul_assoc hxr hq hx, fmul_sum hxr (fmul_lt hq hx) hp, fmul_comm hxr hp, fmul_sum hp hx hr, fmul_comm hx hp]
    exact xor_cancel _ _ _ _
/-- How many of the numbers below k are zeros. -/
def nz (f : Nat → Nat) : Nat → Nat
  | 0 => 0
  | k + 1 => if f k = 0 then nz f k + 1 else nz f k
theorem nz_le (f : Nat → Nat) : ∀ k, nz f k ≤ k
  | 0 => Nat.le_refl _
  | k + 1 => by
    have := nz_le f k
    simp only [nz]
    split <;> omega
theorem nz_none {f : Nat → Nat} : ∀ k, (∀ x, x < k → f x ≠ 0) → nz f k = 0
  | 0, _ => rfl
  | k + 1, h => by
    rw [nz, if_neg (h k (by omega))]
    exact nz_none k fun x hx => h x (by omega)
theorem nz_or {f g : Nat → Nat} {r : Nat} : ∀ k, (∀ x, x < k → f x = 0 → x = r ∨ g x = 0) → nz f k ≤ nz g k + (if r < k then 1 else 0)
  | 0, _ => by simp [nz]
  | k + 1, h => by
    have ih := nz_or (r := r) k fun x hx => h x (by omega)
    have hk := h k (by omega)
    simp only [nz]
    by_cases hf : f k = 0
    · rcases hk hf with rfl | hg
      · rw [if_pos hf]
        have : ¬ k < k := by omega
        rw [if_neg this] at ih
        rw [if_pos (show k < k + 1 by omega)]
        split <;> omega
      · rw [if_pos hf, if_pos hg]
        by_cases h1 : r < k
        · rw [if_pos h1] at ih; rw [if_pos (show r < k + 1 by omega)]; omega
        · rw [if_neg h1] at ih; split <;> omega
    · rw [if_neg hf]
      by_cases h1 : r < k
      · rw [if_pos h1] at ih; rw [if_pos (show r < k + 1 by omega)]; split <;> omega
      · rw [if_neg h1] at ih; split <;> split <;> omega
theorem nz_congr {f g : Nat → Nat} : ∀ k, (∀ x, x < k → f x = g x) → nz f k = nz g k
  | 0, _ => rfl
  | k + 1, h => by rw [nz, nz, nz_congr k fun x hx => h x (by omega), h k (by omega)]
/-- A polynomial of degree n has at most n zeros. -/
theorem few : ∀ (n : Nat) (c : Nat → Nat), (∀ i, i < n + 1 → c i < 16) → c 0 ≠ 0 → nz (fun x => pol c x (n + 1)) 16 ≤ n
  | 0, c, _, h0 => by
    rw [nz_none 16 fun x _ => by show pol c x (0 + 1) ≠ 0; rw [pol, pol, z_fmul, Nat.zero_xor]; exact h0]
    omega
  | n + 1, c, hc, h0 => by
    by_cases hr : ∃ r, r < 16 ∧ pol c r (n + 1 + 1) = 0
    · obtain ⟨r, hr, hz⟩ := hr
      have ih := few n (quo c r) (fun i hi => pol_lt hr (i + 1) fun j hj => hc j (by omega)) (by show pol c r (0 + 1) ≠ 0; rw [pol, pol, z_fmul, Nat.zero_xor]; exact h0)
      have := nz_or (f := fun x => pol c x (n + 1 + 1)) (g := fun x => pol (quo c r) x (n + 1)) (r := r) 16 (fun x hx h => by
        have e : pol c x (n + 1 + 1) = 0 := h
        rw [pol_quo hx hr (n + 1) hc, hz, Nat.xor_zero] at e
        rcases (fmul_zero (xor_lt hx hr) (pol_lt hx (n + 1) fun i hi => pol_lt hr (i + 1) fun j hj => hc j (by omega))).1 e with e | e
        · exact .inl (xor_eq hx hr e)
        · exact .inr e)
      rw [if_pos hr] at this
      omega
    · rw [nz_none 16 fun x hx h => hr ⟨x, hx, h⟩]
      omega

/-- The elements of the field. -/
def elOk (a : Int) : Bool := decide (0 ≤ a) && decide (a < 16)
theorem elOk_yes {a : Int} (h : elOk a = true) : 0 ≤ a ∧ a < 16 := by simpa [elOk] using h
theorem elOk_no {a : Int} (h : elOk a = false) : a < 0 ∨ 16 ≤ a := by
  by_cases h0 : 0 ≤ a
  · simp [elOk, h0] at h; exact .inr h
  · exact .inl (by omega)
theorem elOk_nat {a : Int} (h : elOk a = true) : ∃ n : Nat, a = (n : Int) ∧ n < 16 := by
  have := elOk_yes h
  exact ⟨a.toNat, by omega, by omega⟩
theorem elOk_of {n : Nat} (h : n < 16) : elOk (n : Int) = true := by simp [elOk]; omega
theorem elOk_in (a : Int) : (decide (0 ≤ a) && decide (a ≤ 15)) = elOk a := by
  unfold elOk; rw [Bool.eq_iff_iff]; simp; omega
def addOr (a b : Int) : Int := if elOk a && elOk b then ((a.toNat ^^^ b.toNat : Nat) : Int) else -1
def mulOr (a b : Int) : Int := if elOk a && elOk b then (fmul a.toNat b.toNat : Int) else -1
def invOr (a : Int) : Int := if elOk a then (finv a.toNat : Int) else 0
def exOk (n : Int) : Bool := decide (0 ≤ n) && decide (n ≤ 1000)
def powOr (a n : Int) : Int := if elOk a && exOk n then (fpow a.toNat n.toNat : Int) else -1
theorem addOr_nat {a b : Nat} (ha : a < 16) (hb : b < 16) : addOr (a : Int) (b : Int) = ((a ^^^ b : Nat) : Int) := by simp [addOr, elOk_of ha, elOk_of hb]
theorem mulOr_nat {a b : Nat} (ha : a < 16) (hb : b < 16) : mulOr (a : Int) (b : Int) = (fmul a b : Int) := by simp [mulOr, elOk_of ha, elOk_of hb]
theorem invOr_nat {a : Nat} (ha : a < 16) : invOr (a : Int) = (finv a : Int) := by simp [invOr, elOk_of ha]
theorem powOr_nat {a n : Nat} (ha : a < 16) (hn : n ≤ 1000) : powOr (a : Int) (n : Int) = (fpow a n : Int) := by
  have : exOk (n : Int) = true := by simp [exOk]; omega
  simp [powOr, elOk_of ha, this]
theorem addOr_l {a b : Int} (h : elOk a = false) : addOr a b = -1 := by simp [addOr, h]
theorem addOr_r {a b : Int} (h : elOk b = false) : addOr a b = -1 := by simp [addOr, h]
theorem mulOr_l {a b : Int} (h : elOk a = false) : mulOr a b = -1 := by simp [mulOr, h]
theorem mulOr_r {a b : Int} (h : elOk b = false) : mulOr a b = -1 := by simp [mulOr, h]
theorem invOr_no {a : Int} (h : elOk a = false) : invOr a = 0 := by simp [invOr, h]
theorem powOr_l {a n : Int} (h : elOk a = false) : powOr a n = -1 := by simp [powOr, h]
theorem powOr_r {a n : Int} (h : exOk n = false) : powOr a n = -1 := by simp [powOr, h]
/-- A polynomial's coefficients. -/
def co (xs : List Int) (i : Nat) : Nat := (el xs i).toNat
def coOk (xs : List Int) : Bool := decide (xs.length ≤ 15) && xs.all elOk
def polOr (xs : List Int) (x : Int) : Int := if elOk x && coOk xs then (pol (co xs) x.toNat xs.length : Int) else -1
theorem polOr_nat {xs : List Int} {x : Nat} (hx : x < 16) (h : coOk xs = true) : polOr xs (x : Int) = (pol (co xs) x xs.length : Int) := by simp [polOr, elOk_of hx, h]
theorem polOr_l {xs : List Int} {x : Int} (h : elOk x = false) : polOr xs x = -1 := by simp [polOr, h]
theorem polOr_r {xs : List Int} {x : Int} (h : coOk xs = false) : polOr xs x = -1 := by simp [polOr, h]
theorem co_el {xs : List Int} {i : Nat} (h : xs.all elOk = true) (hi : i < xs.length) : el xs i = (co xs i : Int) ∧ co xs i < 16 := by
  have := elOk_yes (List.all_eq_true.1 h _ (el_mem hi))
  unfold co
  omega
/-- The exclusive or of two small numbers, as the machine reckons it. -/
theorem xor_word (a b : Nat) (ha : a < 64) (hb : b < 64) : bits .xor .i64 (a : Int) (b : Int) = ((a ^^^ b : Nat) : Int) := by
  have hof : ∀ n : Nat, n < 64 → (BitVec.ofInt 64 (n : Int)).toNat = n := fun n hn => by
    rw [BitVec.ofInt_natCast, BitVec.toNat_ofNat]; exact Nat.mod_eq_of_lt (by omega)
  have hlt : a ^^^ b < 64 := Nat.xor_lt_two_pow (n := 6) ha hb
  show IntKind.i64.wrap ((BitVec.ofInt 64 (a : Int) ^^^ BitVec.ofInt 64 (b : Int)).toNat : Int) = _
  rw [BitVec.toNat_xor, hof a ha, hof b hb, IntKind.wrap_i64]
  generalize a ^^^ b = q at hlt
  omega
end Go.Proofs.Ytkeeijkjemcbcaa
