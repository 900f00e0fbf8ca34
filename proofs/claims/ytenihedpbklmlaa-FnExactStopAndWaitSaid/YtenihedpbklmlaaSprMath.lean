/-
  Spreading with codes of eight chips: mathematics, what the functions of chapter 12 answer. No condition; plain lemmas.
-/
import Derived.Test.YtenihedpbklmlaaTrMath
import Derived.Test.YtenihedpbklmlaaOne
namespace Go.Proofs.Ytenihedpbklmlaa
open Go.RowKit

/-- Chip j of code k. -/
def sgN (x : Nat) : Nat := x % 2 + x / 2 % 2 + x / 4 % 2
def sg (k j : Nat) : Int := 1 - 2 * ((sgN (k &&& j) % 2 : Nat) : Int)
theorem sg_pm (k j : Nat) : sg k j = 1 ∨ sg k j = -1 := by unfold sg; omega
theorem sg_sym (k j : Nat) : sg k j = sg j k := by unfold sg; rw [Nat.and_comm]
theorem sg_orth_tab : ∀ k, k < 8 → ∀ j, j < 8 → sqS (fun i => sg k i * sg j i) 8 = if k = j then 8 else 0 := by decide +kernel
theorem sg_orth {k j : Nat} (hk : k < 8) (hj : j < 8) : sqS (fun i => sg k i * sg j i) 8 = if k = j then 8 else 0 := sg_orth_tab k hk j hj
theorem sg_group_tab : ∀ k, k < 8 → ∀ j, j < 8 → ∀ i, i < 8 → sg (k ^^^ j) i = sg k i * sg j i := by decide +kernel
theorem sg_group {k j i : Nat} (hk : k < 8) (hj : j < 8) (hi : i < 8) : sg (k ^^^ j) i = sg k i * sg j i := sg_group_tab k hk j hj i hi
theorem xor8 {k j : Nat} (hk : k < 8) (hj : j < 8) : k ^^^ j < 8 := Nat.xor_lt_two_pow (n := 3) hk hj
/-- A sum by blocks of eight. -/
theorem sqS_blocks (f : Nat → Int) : ∀ n, sqS f (8 * n) = sqS (fun i => sqS (fun j => f (8 * i + j)) 8) n
  | 0 => rfl
  | n + 1 => by
    rw [show 8 * (n + 1) = 8 * n + 8 by omega, sqS_split, sqS_blocks f n]; rfl
/-- The codes. -/
def wal (k : Nat) : List Int := (List.range 8).map (sg k)
def walOr (k : Int) : List Int := if 0 ≤ k ∧ k ≤ 7 then wal k.toNat else []
theorem wal_length (k : Nat) : (wal k).length = 8 := by simp [wal]
theorem wal_el {k j : Nat} (hj : j < 8) : el (wal k) j = sg k j := by simp [wal, el, hj]
theorem walOr_no {k : Int} (h : ¬ (0 ≤ k ∧ k ≤ 7)) : walOr k = [] := if_neg h
theorem walOr_yes {k : Nat} (h : k < 8) : walOr (k : Int) = wal k := by
  unfold walOr
  rw [if_pos ⟨by omega, by omega⟩]; rfl
theorem walOr_length (k : Int) : (walOr k).length ≤ 8 := by
  unfold walOr; split
  · rw [wal_length]; omega
  · simp
theorem wal_orth {k j : Nat} (hk : k < 8) (hj : j < 8) : sqS (fun i => el (wal k) i * el (wal j) i) 8 = if k = j then 8 else 0 := by
  rw [sqS_congr (g := fun i => sg k i * sg j i) fun i hi => by rw [wal_el hi, wal_el hi], sg_orth hk hj]
/-- Spread bits. -/
def spF (bs : List Int) (k m : Nat) : Int := (2 * el bs (m / 8) - 1) * sg k (m % 8)
def spr (bs : List Int) (k : Nat) : List Int := (List.range (8 * bs.length)).map (spF bs k)
def sprOr (bs : List Int) (k : Int) : List Int := if bitsOk bs = true ∧ bs.length ≤ 32 ∧ 0 ≤ k ∧ k ≤ 7 then spr bs k.toNat else []
theorem spr_length (bs : List Int) (k : Nat) : (spr bs k).length = 8 * bs.length := by simp [spr]
theorem spr_el {bs : List Int} {k m : Nat} (h : m < 8 * bs.length) : el (spr bs k) m = spF bs k m := by simp [spr, el, h]
theorem spr_at {bs : List Int} {k i j : Nat} (hi : i < bs.length) (hj : j < 8) : el (spr bs k) (8 * i + j) = (2 * el bs i - 1) * sg k j := by
  rw [spr_el (by omega), spF, show (8 * i + j) / 8 = i by omega, show (8 * i + j) % 8 = j by omega]
theorem sprOr_no {bs : List Int} {k : Int} (h : ¬ (bitsOk bs = true ∧ bs.length ≤ 32 ∧ 0 ≤ k ∧ k ≤ 7)) : sprOr bs k = [] := if_neg h
theorem sprOr_yes {bs : List Int} {k : Nat} (h : bitsOk bs = true) (hl : bs.length ≤ 32) (hk : k < 8) : sprOr bs (k : Int) = spr bs k := by
  unfold sprOr
  rw [if_pos ⟨h, hl, by omega, by omega⟩]; rfl
theorem sprOr_length (bs : List Int) (k : Int) : (sprOr bs k).length ≤ 256 := by
  unfold sprOr; split
  · next h => rw [spr_length]; omega
  · simp
/-- Added chips. -/
def chOk (M : Int) (xs : List Int) : Bool := xs.all fun x => decide (-M ≤ x) && decide (x ≤ M)
theorem chOk_in {M : Int} (hM : 0 ≤ M) {xs : List Int} (h : chOk M xs = true) (i : Nat) : -M ≤ el xs i ∧ el xs i ≤ M := by
  by_cases hi : i < xs.length
  · simp only [chOk, List.all_eq_true, Bool.and_eq_true, decide_eq_true_eq] at h
    exact h _ (el_mem hi)
  · rw [el_out (by omega)]; omega
theorem chOk_bad {M : Int} {xs : List Int} {i : Nat} (hi : i < xs.length) (h : ¬ (-M ≤ el xs i ∧ el xs i ≤ M)) : chOk M xs = false := by
  cases e : chOk M xs
  · rfl
  · simp only [chOk, List.all_eq_true, Bool.and_eq_true, decide_eq_true_eq] at e
    exact absurd (e _ (el_mem hi)) h
theorem chOk_good {M : Int} {xs : List Int} (h : ∀ i, i < xs.length → -M ≤ el xs i ∧ el xs i ≤ M) : chOk M xs = true := by
  simp only [chOk, List.all_eq_true, Bool.and_eq_true, decide_eq_true_eq]
  intro x hx
  obtain ⟨i, hi, rfl⟩ := List.getElem_of_mem hx
  have := h i hi
  rwa [el_lt hi] at this
def adL (xs ys : List Int) : List Int := (List.range xs.length).map fun i => el xs i + el ys i
def adOr (xs ys : List Int) : List Int := if xs.length = ys.length ∧ xs.length ≤ 256 ∧ chOk 1000 xs = true ∧ chOk 1000 ys = true then adL xs ys else []
theorem adL_length (xs ys : List Int) : (adL xs ys).length = xs.length := by simp [adL]
theorem adL_el {xs ys : List Int} {i : Nat} (h : i < xs.length) : el (adL xs ys) i = el xs i + el ys i := by simp [adL, el, h]
theorem adOr_no {xs ys : List Int} (h : ¬ (xs.length = ys.length ∧ xs.length ≤ 256 ∧ chOk 1000 xs = true ∧ chOk 1000 ys = true)) : adOr xs ys = [] := if_neg h
theorem adOr_yes {xs ys : List Int} (h1 : xs.length = ys.length) (h2 : xs.length ≤ 256) (h3 : chOk 1000 xs = true) (h4 : chOk 1000 ys = true) : adOr xs ys = adL xs ys := if_pos ⟨h1, h2, h3, h4⟩
theorem adOr_length (xs ys : List Int) : (adOr xs ys).length ≤ 256 := by
  unfold adOr; split
  · next h => rw [adL_length]; omega
  · simp
theorem adL_comm {xs ys : List Int} (h : xs.length = ys.length) : adL ys xs = adL xs ys :=
  list_ext9 (by rw [adL_length, adL_length, h]) fun i hi => by
    rw [adL_length] at hi
    rw [adL_el hi, adL_el (by omega), Int.add_comm]
theorem adOr_comm (xs ys : List Int) : adOr ys xs = adOr xs ys := by
  by_cases h : xs.length = ys.length ∧ xs.length ≤ 256 ∧ chOk 1000 xs = true ∧ chOk 1000 ys = true
  · rw [adOr_yes h.1 h.2.1 h.2.2.1 h.2.2.2, adOr_yes h.1.symm (by omega) h.2.2.2 h.2.2.1, adL_comm h.1]
  · rw [adOr_no h, adOr_no fun h' => h ⟨h'.1.symm, by omega, h'.2.2.2, h'.2.2.1⟩]
theorem adOr_zero {xs : List Int} (h2 : xs.length ≤ 256) (h3 : chOk 1000 xs = true) : adOr xs (List.replicate xs.length 0) = xs := by
  have hz : ∀ i, el (List.replicate xs.length (0 : Int)) i = 0 := fun i => by
    by_cases hi : i < xs.length <;> simp [el, hi]
  rw [adOr_yes (by simp) h2 h3 (chOk_good fun i _ => by rw [hz]; omega)]
  exact list_ext9 (adL_length _ _) fun i hi => by
    rw [adL_length] at hi
    rw [adL_el hi, hz, Int.add_zero]
/-- Sums of chips. -/
def dsS (xs : List Int) (k i : Nat) : Int := sqS (fun j => el xs (8 * i + j) * sg k j) 8
def dsL (xs : List Int) (k : Nat) : List Int := (List.range (xs.length / 8)).map (dsS xs k)
def dsOk (xs : List Int) (k : Int) : Prop := xs.length % 8 = 0 ∧ xs.length ≤ 256 ∧ 0 ≤ k ∧ k ≤ 7 ∧ chOk 8000 xs = true
instance (xs : List Int) (k : Int) : Decidable (dsOk xs k) := by unfold dsOk; exact inferInstance
def dsOr (xs : List Int) (k : Int) : List Int := if dsOk xs k then dsL xs k.toNat else []
theorem dsL_length (xs : List Int) (k : Nat) : (dsL xs k).length = xs.length / 8 := by simp [dsL]
theorem dsL_el {xs : List Int} {k i : Nat} (h : i < xs.length / 8) : el (dsL xs k) i = dsS xs k i := by simp [dsL, el, h]
theorem dsOr_no {xs : List Int} {k : Int} (h : ¬ dsOk xs k) : dsOr xs k = [] := if_neg h
theorem dsOr_yes {xs : List Int} {k : Nat} (h : dsOk xs (k : Int)) : dsOr xs (k : Int) = dsL xs k := by
  unfold dsOr
  rw [if_pos h]; rfl
theorem dsOr_length (xs : List Int) (k : Int) : (dsOr xs k).length ≤ 32 := by
  unfold dsOr; split
  · next h => rw [dsL_length]; have := h.2.1; omega
  · simp
theorem dsS_in {xs : List Int} (h : chOk 8000 xs = true) (k i : Nat) : -64000 ≤ dsS xs k i ∧ dsS xs k i ≤ 64000 := by
  have h1 := sqS_bound (f := fun j => el xs (8 * i + j) * sg k j) (M := 8000) (n := 8) fun j _ => by
    have := chOk_in (by omega) h (8 * i + j)
    rcases sg_pm k j with e | e <;> rw [e] <;> omega
  unfold dsS
  omega
/-- Despread bits. -/
def dbit (s : Int) : Int := if 0 < s then 1 else 0
def dbOr (xs : List Int) (k : Int) : List Int := (dsOr xs k).map dbit
theorem dbOr_length (xs : List Int) (k : Int) : (dbOr xs k).length = (dsOr xs k).length := by simp [dbOr]
theorem dbOr_el {xs : List Int} {k : Int} {i : Nat} (h : i < (dsOr xs k).length) : el (dbOr xs k) i = dbit (el (dsOr xs k) i) := by simp [dbOr, el, h]
/-- The laws. -/
theorem ds_spr {bs : List Int} {k j i : Nat} (hk : k < 8) (hj : j < 8) (hi : i < bs.length) : dsS (spr bs k) j i = (2 * el bs i - 1) * if k = j then 8 else 0 := by
  unfold dsS
  rw [sqS_congr (g := fun m => (2 * el bs i - 1) * (sg k m * sg j m)) fun m hm => by rw [spr_at hi hm, Int.mul_assoc], sqS_mul, sg_orth hk hj]
theorem ds_add {xs ys : List Int} {k i : Nat} (hi : i < xs.length / 8) : dsS (adL xs ys) k i = dsS xs k i + dsS ys k i := by
  unfold dsS
  rw [← sqS_add]
  exact sqS_congr fun j hj => by rw [adL_el (by omega), Int.add_mul]
theorem ds_square (xs : List Int) (i : Nat) : sqS (fun k => dsS xs k i * dsS xs k i) 8 = 8 * sqS (fun j => el xs (8 * i + j) * el xs (8 * i + j)) 8 := by
  have e1 : sqS (fun k => dsS xs k i * dsS xs k i) 8 = sqS (fun k => sqS (fun j => sqS (fun m => el xs (8 * i + j) * el xs (8 * i + m) * (sg j k * sg m k)) 8) 8) 8 := sqS_congr fun k _ => by
    show dsS xs k i * dsS xs k i = _
    rw [show dsS xs k i * dsS xs k i = sqS (fun j => el xs (8 * i + j) * sg k j) 8 * dsS xs k i from rfl, ← sqS_mulR]
    refine sqS_congr fun j _ => ?_
    show el xs (8 * i + j) * sg k j * dsS xs k i = _
    unfold dsS
    rw [← sqS_mul]
    refine sqS_congr fun m _ => ?_
    rw [sg_sym k j, sg_sym k m, Int.mul_assoc, Int.mul_assoc, Int.mul_left_comm (sg j k)]
  have e2 : sqS (fun k => sqS (fun j => sqS (fun m => el xs (8 * i + j) * el xs (8 * i + m) * (sg j k * sg m k)) 8) 8) 8 = sqS (fun j => sqS (fun m => el xs (8 * i + j) * el xs (8 * i + m) * sqS (fun k => sg j k * sg m k) 8) 8) 8 := by
    rw [sqS_swap (fun k j => sqS (fun m => el xs (8 * i + j) * el xs (8 * i + m) * (sg j k * sg m k)) 8) 8 8]
    refine sqS_congr fun j _ => ?_
    show sqS (fun k => sqS (fun m => el xs (8 * i + j) * el xs (8 * i + m) * (sg j k * sg m k)) 8) 8 = _
    rw [sqS_swap (fun k m => el xs (8 * i + j) * el xs (8 * i + m) * (sg j k * sg m k)) 8 8]
    exact sqS_congr fun m _ => sqS_mul _ _ _
  rw [e1, e2, ← sqS_mul]
  refine sqS_congr fun j hj => ?_
  rw [sqS_congr (g := fun m => if m = j then 8 * (el xs (8 * i + j) * el xs (8 * i + j)) else 0) fun m hm => by
    rw [sg_orth hj hm]
    by_cases e : m = j
    · subst e; rw [if_pos rfl, if_pos rfl, Int.mul_comm]
    · rw [if_neg e, if_neg (fun h => e h.symm), Int.mul_zero]]
  have e3 : ∀ n, sqS (fun m => if m = j then 8 * (el xs (8 * i + j) * el xs (8 * i + j)) else 0) n = if j < n then 8 * (el xs (8 * i + j) * el xs (8 * i + j)) else 0 := fun n => by
    induction n with
    | zero => rw [if_neg (by omega)]; rfl
    | succ n ih =>
      show sqS _ n + (if n = j then _ else 0) = _
      rw [ih]
      by_cases h1 : n = j
      · rw [if_pos h1, if_neg (by omega), if_pos (by omega), Int.zero_add]
      · by_cases h2 : j < n
        · rw [if_neg h1, if_pos h2, if_pos (by omega), Int.add_zero]
        · rw [if_neg h1, if_neg h2, if_neg (by omega)]; rfl
  rw [e3, if_pos hj]
theorem ds_squares (xs : List Int) (n : Nat) : sqS (fun k => sqS (fun i => dsS xs k i * dsS xs k i) n) 8 = 8 * sqS (fun m => el xs m * el xs m) (8 * n) := by
  rw [sqS_swap (fun k i => dsS xs k i * dsS xs k i) n 8, sqS_blocks, ← sqS_mul]
  exact sqS_congr fun i _ => ds_square xs i
/-- What is spread with one code, and another list spread with another code added, is despread. -/
theorem bit_two {bs : List Int} (h : bitsOk bs = true) {i : Nat} (hi : i < bs.length) : (el bs i = 0 ∨ el bs i = 1) := bit_cases h hi
theorem chOk_spr {bs : List Int} (h : bitsOk bs = true) (k : Nat) : chOk 1 (spr bs k) = true := chOk_good fun m hm => by
  rw [spr_length] at hm
  rw [spr_el hm, spF]
  rcases bit_two h (i := m / 8) (by omega) with e | e <;> rcases sg_pm k (m % 8) with e' | e' <;> rw [e, e'] <;> omega
theorem chOk_more {M N : Int} (hMN : M ≤ N) {xs : List Int} (h : chOk M xs = true) : chOk N xs = true := by
  simp only [chOk, List.all_eq_true, Bool.and_eq_true, decide_eq_true_eq] at h ⊢
  intro x hx
  have := h x hx
  omega
/-- The sums of a list that is the sum of two spread lists. -/
theorem ds_both {bs cs : List Int} {k j i : Nat} (hk : k < 8) (hj : j < 8) (hne : k ≠ j) (hl : cs.length = bs.length) (hi : i < bs.length) :
    dsS (adL (spr bs k) (spr cs j)) k i = (2 * el bs i - 1) * 8 ∧ dsS (adL (spr bs k) (spr cs j)) j i = (2 * el cs i - 1) * 8 := by
  have h8 : i < (spr bs k).length / 8 := by rw [spr_length]; omega
  rw [ds_add h8, ds_add h8, ds_spr hk hk hi, ds_spr hj hk (by omega), ds_spr hk hj hi, ds_spr hj hj (by omega), if_pos rfl, if_neg (fun h => hne h.symm), if_neg hne, if_pos rfl]
  omega
theorem dbit_of {b : Int} (h : b = 0 ∨ b = 1) : dbit ((2 * b - 1) * 8) = b := by rcases h with rfl | rfl <;> rfl
/-- A list whose sums are the signs of bits. -/
theorem db_of {bs xs : List Int} {k : Nat} (h : bitsOk bs = true) (hd : dsOk xs (k : Int)) (hl : xs.length = 8 * bs.length) (hs : ∀ i, i < bs.length → dsS xs k i = (2 * el bs i - 1) * 8) : dbOr xs (k : Int) = bs := by
  have hlen : (dsOr xs (k : Int)).length = bs.length := by rw [dsOr_yes hd, dsL_length, hl]; omega
  refine list_ext9 (by rw [dbOr_length, hlen]) fun i hi => ?_
  rw [dbOr_length, hlen] at hi
  rw [dbOr_el (by omega), dsOr_yes hd, dsL_el (by omega), hs i hi, dbit_of (bit_two h hi)]
theorem ds_zero_list {bs : List Int} {k j : Nat} (hk : k < 8) (hj : j < 8) (hne : k ≠ j) (hd : dsOk (spr bs k) (j : Int)) : dsOr (spr bs k) (j : Int) = List.replicate bs.length 0 := by
  rw [dsOr_yes hd]
  refine list_ext9 (by rw [dsL_length, spr_length, List.length_replicate]; omega) fun i hi => ?_
  rw [dsL_length, spr_length] at hi
  have hi2 : i < bs.length := by omega
  rw [dsL_el (by rw [spr_length]; omega), ds_spr hk hj hi2, if_neg hne, Int.mul_zero]
  simp [el, hi2]
/-- Negated chips. -/
theorem ds_neg {xs ys : List Int} {k i : Nat} (h : ∀ m, el ys m = -el xs m) : dsS ys k i = -dsS xs k i := by
  unfold dsS
  rw [show -sqS (fun j => el xs (8 * i + j) * sg k j) 8 = -1 * sqS (fun j => el xs (8 * i + j) * sg k j) 8 by omega, ← sqS_mul]
  exact sqS_congr fun j _ => by rw [h, Int.neg_mul, Int.neg_mul, Int.one_mul]
theorem dbit_neg {s : Int} (h : s ≠ 0) : dbit s + dbit (-s) = 1 := by
  unfold dbit
  by_cases h1 : 0 < s
  · rw [if_pos h1, if_neg (by omega)]; rfl
  · rw [if_neg h1, if_pos (by omega)]; rfl
/-- Linear forms of n numbers. -/
def lnG (n : Nat) (f r : Nat → Int) : Int := sqS (fun j => f j * r j) n
theorem lnG_add (n : Nat) (f r s : Nat → Int) : lnG n f (fun j => r j + s j) = lnG n f r + lnG n f s := by
  unfold lnG
  rw [← sqS_add]
  exact sqS_congr fun j _ => Int.mul_add _ _ _
theorem lnG_sub (n : Nat) (f r s : Nat → Int) : lnG n f (fun j => r j - s j) = lnG n f r - lnG n f s := by
  have e : lnG n f (fun j => r j - s j) = lnG n f (fun j => r j + -s j) := sqS_congr fun j _ => by show f j * (r j - s j) = f j * (r j + -s j); rw [Int.sub_eq_add_neg]
  have e2 : lnG n f (fun j => -s j) = -lnG n f s := by
    unfold lnG
    rw [show -sqS (fun j => f j * s j) n = -1 * sqS (fun j => f j * s j) n by omega, ← sqS_mul]
    exact sqS_congr fun j _ => by rw [Int.mul_neg, Int.neg_mul, Int.one_mul]
  rw [e, lnG_add, e2]; omega
theorem lnG_congr {n : Nat} (f : Nat → Int) {r s : Nat → Int} (h : ∀ j, j < n → r j = s j) : lnG n f r = lnG n f s := sqS_congr fun j hj => by show f j * r j = f j * s j; rw [h j hj]
theorem dsS_ln (xs : List Int) (k i : Nat) : dsS xs k i = lnG 8 (fun j => el xs (8 * i + j)) (sg k) := rfl
end Go.Proofs.Ytenihedpbklmlaa
