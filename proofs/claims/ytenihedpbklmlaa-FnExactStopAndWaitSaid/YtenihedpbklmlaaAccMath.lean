/-
  Random access: mathematics, what the functions of chapter 15 answer. No condition; plain lemmas.
-/
import Derived.Test.YtenihedpbklmlaaSeqMath
namespace Go.Proofs.Ytenihedpbklmlaa
open Go.RowKit

/-- The generator; the slots that are waited. -/
def acNx (s : Nat) : Nat := (1229 * s + 1) % 2048
def acBo (s f : Nat) : Nat := s / 8 % 2 ^ min f 6
theorem acNx_lt (s : Nat) : acNx s < 2048 := Nat.mod_lt _ (by decide)
theorem acNx_back : ∀ s, s < 2048 → 5 * (acNx s + 2047) % 2048 = s := by decide +kernel
theorem acNx_inj {s k : Nat} (hs : s < 2048) (hk : k < 2048) (h : acNx s = acNx k) : s = k := by rw [← acNx_back s hs, h, acNx_back k hk]
theorem acBo_lt (s f : Nat) : acBo s f < 2 ^ min f 6 := Nat.mod_lt _ (Nat.pow_pos (by decide))
theorem acBo_small (s f : Nat) : acBo s f < 64 := by
  have h : 2 ^ min f 6 ≤ 2 ^ 6 := Nat.pow_le_pow_right (by decide) (Nat.min_le_right _ _)
  exact Nat.lt_of_lt_of_le (acBo_lt s f) h
theorem acBo_next (s f : Nat) : acBo s (f + 1) = acBo s f ∨ f < 6 ∧ acBo s (f + 1) = acBo s f + 2 ^ f := by
  unfold acBo
  by_cases h : f < 6
  · rw [show min (f + 1) 6 = f + 1 by omega, show min f 6 = f by omega, Nat.pow_succ]
    have h1 := Nat.mod_mul (x := s / 8) (a := 2 ^ f) (b := 2)
    rw [h1]
    rcases Nat.mod_two_eq_zero_or_one (s / 8 / 2 ^ f) with e | e
    · exact .inl (by rw [e]; omega)
    · exact .inr ⟨h, by rw [e]; omega⟩
  · exact .inl (by rw [show min (f + 1) 6 = 6 by omega, show min f 6 = 6 by omega])
/-- What NextSeed and BackoffSlots answer. -/
def sdIn (x : Int) : Bool := decide (0 ≤ x) && decide (x ≤ 2047)
def nsOr (x : Int) : Int := if sdIn x then (acNx x.toNat : Int) else 0
def boOr (x a : Int) : Int := if sdIn x = true ∧ 1 ≤ a ∧ a ≤ 100 then (acBo x.toNat a.toNat : Int) else -1
theorem sdIn_nat {s : Nat} (h : s < 2048) : sdIn (s : Int) = true := by simp [sdIn]; omega
theorem sdIn_yes {x : Int} (h : sdIn x = true) : 0 ≤ x ∧ x ≤ 2047 := by simpa [sdIn] using h
theorem nsOr_nat {s : Nat} (h : s < 2048) : nsOr (s : Int) = (acNx s : Int) := by simp [nsOr, sdIn_nat h]
theorem boOr_nat {s f : Nat} (h : s < 2048) (h1 : 1 ≤ f) (h2 : f ≤ 100) : boOr (s : Int) (f : Int) = (acBo s f : Int) := by
  unfold boOr
  rw [if_pos ⟨sdIn_nat h, by omega, by omega⟩]; rfl

/-- Who is alone in a slot. -/
def aloneN (xs : List Int) (k : Nat) : Nat → Bool
  | 0 => true
  | j + 1 => aloneN xs k j && (decide (j = k) || decide (el xs j ≠ el xs k))
theorem aloneN_iff (xs : List Int) (k : Nat) : ∀ n, aloneN xs k n = true ↔ ∀ j, j < n → j ≠ k → el xs j ≠ el xs k
  | 0 => ⟨fun _ j hj => absurd hj (by omega), fun _ => rfl⟩
  | n + 1 => by
    rw [aloneN, Bool.and_eq_true, Bool.or_eq_true, decide_eq_true_eq, decide_eq_true_eq, aloneN_iff xs k n]
    constructor
    · rintro ⟨h1, h2⟩ j hj hjk
      by_cases e : j = n
      · subst e; exact h2.resolve_left hjk
      · exact h1 j (by omega) hjk
    · intro h
      exact ⟨fun j hj hjk => h j (by omega) hjk, by by_cases e : n = k; exact .inl e; exact .inr (h n (by omega) e)⟩
/-- The first m senders that are alone among n. -/
def ssN (xs : List Int) (n : Nat) : Nat → List Int
  | 0 => []
  | m + 1 => if aloneN xs m n then ssN xs n m ++ [(m : Int)] else ssN xs n m
def slIn (x : Int) : Bool := decide (0 ≤ x) && decide (x ≤ 399)
def ssOk (xs : List Int) : Bool := decide (xs.length ≤ 8) && xs.all slIn
def ssOr (xs : List Int) : List Int := if ssOk xs then ssN xs xs.length xs.length else []
theorem ssN_mem {xs : List Int} {n : Nat} : ∀ {m : Nat} {x : Int}, x ∈ ssN xs n m → ∃ k : Nat, x = k ∧ k < m ∧ aloneN xs k n = true
  | m + 1, x, h => by
    unfold ssN at h
    split at h
    · next ha =>
      rcases List.mem_append.1 h with h | h
      · obtain ⟨k, h1, h2, h3⟩ := ssN_mem h; exact ⟨k, h1, by omega, h3⟩
      · simp at h; exact ⟨m, h, by omega, ha⟩
    · obtain ⟨k, h1, h2, h3⟩ := ssN_mem h; exact ⟨k, h1, by omega, h3⟩
theorem ssN_len (xs : List Int) (n : Nat) : ∀ m, (ssN xs n m).length ≤ m
  | 0 => Nat.le_refl _
  | m + 1 => by
    have := ssN_len xs n m
    unfold ssN
    split
    · rw [List.length_append]; exact Nat.succ_le_succ this
    · omega
/-- With a further sender in the slot of one that is alone, this one alone succeeds no more. -/
theorem aloneN_more {xs : List Int} {a k : Nat} (ha : aloneN xs a xs.length = true) (hal : a < xs.length) (hk : k < xs.length) : aloneN (xs ++ [el xs a]) k (xs.length + 1) = (aloneN xs k xs.length && decide (k ≠ a)) := by
  have e1 : ∀ j, j < xs.length → el (xs ++ [el xs a]) j = el xs j := fun j hj => by simp [el, List.getElem?_append_left hj]
  have e2 : el (xs ++ [el xs a]) xs.length = el xs a := by simp [el]
  rw [Bool.eq_iff_iff, Bool.and_eq_true, decide_eq_true_eq, aloneN_iff, aloneN_iff]
  rw [aloneN_iff] at ha
  constructor
  · intro h
    refine ⟨fun j hj hjk => by rw [← e1 j hj, ← e1 k hk]; exact h j (by omega) hjk, fun e => ?_⟩
    subst e
    exact h xs.length (by omega) (by omega) (by rw [e2, e1 k hk])
  · rintro ⟨h1, h2⟩ j hj hjk
    rw [e1 k hk]
    by_cases e : j = xs.length
    · subst e; rw [e2]; exact fun e => h2 (by
        by_cases hka : k = a
        · exact hka
        · exact absurd e.symm (ha k hk hka))
    · rw [e1 j (by omega)]; exact h1 j (by omega) hjk
theorem aloneN_last {xs : List Int} {a : Nat} (hal : a < xs.length) : aloneN (xs ++ [el xs a]) xs.length (xs.length + 1) = false := by
  rw [Bool.eq_false_iff]
  intro h
  rw [aloneN_iff] at h
  refine h a (by omega) (by omega) ?_
  simp [el, List.getElem?_append_left hal]
theorem ssN_more {xs : List Int} {a : Nat} (ha : aloneN xs a xs.length = true) (hal : a < xs.length) : ∀ m, m ≤ xs.length → (ssN (xs ++ [el xs a]) (xs.length + 1) m).length + (if a < m then 1 else 0) = (ssN xs xs.length m).length
  | 0, _ => by simp [ssN]
  | m + 1, hm => by
    have ih := ssN_more ha hal m (by omega)
    unfold ssN
    rw [aloneN_more ha hal (by omega)]
    by_cases e : m = a
    · subst e
      rw [ha, if_neg (by simp), if_pos rfl, List.length_append, if_pos (by omega)]
      rw [if_neg (by omega)] at ih
      simp only [List.length_singleton]; omega
    · have e2 : (a < m + 1) = (a < m) := by rw [eq_iff_iff]; omega
      simp only [e2]
      cases aloneN xs m xs.length
      · simpa using ih
      · simp only [Bool.true_and, decide_eq_true_eq, ne_eq, e, not_false_eq_true, if_true, List.length_append, List.length_singleton]
        omega
theorem ss_more {xs : List Int} {a : Nat} (ha : aloneN xs a xs.length = true) (hal : a < xs.length) : (ssN (xs ++ [el xs a]) (xs ++ [el xs a]).length (xs ++ [el xs a]).length).length + 1 = (ssN xs xs.length xs.length).length := by
  rw [List.length_append, List.length_singleton]
  have h := ssN_more ha hal xs.length (Nat.le_refl _)
  rw [if_pos hal] at h
  rw [show ssN (xs ++ [el xs a]) (xs.length + 1) (xs.length + 1) = if aloneN (xs ++ [el xs a]) xs.length (xs.length + 1) then ssN (xs ++ [el xs a]) (xs.length + 1) xs.length ++ [(xs.length : Int)] else ssN (xs ++ [el xs a]) (xs.length + 1) xs.length from rfl, aloneN_last hal, if_neg (by simp)]
  exact h

/-- A sender: its seed, its next slot, its failures, the slot in which it succeeded. -/
structure AcSd where
  seed : Nat
  at' : Nat
  bad : Nat
  got : Int
def acts (t : Nat) (x : AcSd) : Bool := decide (x.got < 0) && decide (x.at' = t)
def acN (t : Nat) (S : Nat → AcSd) : Nat → Nat
  | 0 => 0
  | n + 1 => acN t S n + (acts t (S n)).toNat
def acHit (t : Nat) (x : AcSd) : AcSd := ⟨x.seed, x.at', x.bad, t⟩
def acMiss (t : Nat) (x : AcSd) : AcSd := ⟨acNx x.seed, t + 1 + acBo (acNx x.seed) (min (x.bad + 1) 100), x.bad + 1, x.got⟩
def acS (n t : Nat) (S : Nat → AcSd) (k : Nat) : AcSd := if acts t (S k) then (if acN t S n = 1 then acHit t (S k) else acMiss t (S k)) else S k
def acRun (n : Nat) (S : Nat → AcSd) : Nat → Nat → AcSd
  | 0 => S
  | t + 1 => acS n t (acRun n S t)
def acZero (xs : List Int) (k : Nat) : AcSd := ⟨(el xs k).toNat, 0, 0, -1⟩
def acOk (xs : List Int) : Bool := decide (xs.length ≤ 8) && xs.all sdIn
def acF (xs : List Int) (k : Nat) : Int := (acRun xs.length (acZero xs) 400 k).got
def acOr (xs : List Int) : List Int := if acOk xs then (List.range xs.length).map (acF xs) else []
theorem acN_congr {t : Nat} {S R : Nat → AcSd} : ∀ {n : Nat}, (∀ k, k < n → S k = R k) → acN t S n = acN t R n
  | 0, _ => rfl
  | n + 1, h => by rw [acN, acN, acN_congr fun k hk => h k (by omega), h n (by omega)]
theorem acN_le {t : Nat} {S : Nat → AcSd} {m : Nat} : ∀ {n : Nat}, m ≤ n → acN t S m ≤ acN t S n
  | 0, h => by rw [show m = 0 by omega]; exact Nat.le_refl _
  | n + 1, h => by
    by_cases e : m = n + 1
    · subst e; exact Nat.le_refl _
    · have := acN_le (t := t) (S := S) (m := m) (n := n) (by omega)
      rw [acN]; omega
theorem acN_one {t n j k : Nat} {S : Nat → AcSd} (h : acN t S n = 1) (hj : j < n) (hk : k < n) (aj : acts t (S j) = true) (ak : acts t (S k) = true) : j = k := by
  have two : ∀ {i m : Nat}, i < m → m < n → acts t (S i) = true → acts t (S m) = true → False := fun {i m} him hm ai am => by
    have h1 := acN_le (t := t) (S := S) (m := i + 1) (n := m) (by omega)
    have h2 := acN_le (t := t) (S := S) (m := m + 1) (n := n) (by omega)
    rw [acN, ai] at h1
    rw [acN, am] at h2
    simp only [Bool.toNat_true] at h1 h2
    omega
  rcases Nat.lt_trichotomy j k with h1 | h1 | h1
  · exact absurd (two h1 hk aj ak) id
  · exact h1
  · exact absurd (two h1 hj ak aj) id
theorem acN_all {t : Nat} {S : Nat → AcSd} : ∀ {n : Nat}, (∀ k, k < n → acts t (S k) = true) → acN t S n = n
  | 0, _ => rfl
  | n + 1, h => by rw [acN, acN_all fun k hk => h k (by omega), h n (by omega)]; rfl
theorem acN_none {t : Nat} {S : Nat → AcSd} : ∀ {n : Nat}, (∀ k, k < n → acts t (S k) = false) → acN t S n = 0
  | 0, _ => rfl
  | n + 1, h => by rw [acN, acN_none fun k hk => h k (by omega), h n (by omega)]; rfl
theorem acS_got (n t : Nat) (S : Nat → AcSd) (k : Nat) : (acS n t S k).got = (S k).got ∨ (S k).got < 0 ∧ acts t (S k) = true ∧ acN t S n = 1 ∧ (acS n t S k).got = t := by
  unfold acS
  cases h : acts t (S k)
  · exact .inl rfl
  · by_cases e : acN t S n = 1
    · refine .inr ⟨?_, rfl, e, ?_⟩
      · simp only [acts, Bool.and_eq_true, decide_eq_true_eq] at h; exact h.1
      · rw [if_pos rfl, if_pos e]; rfl
    · rw [if_pos rfl, if_neg e]; exact .inl rfl
/-- What is known of all slots: a slot that was, or none; no two senders in one; seeds in their range. -/
theorem ac_range (n : Nat) (xs : List Int) : ∀ t k, (acRun n (acZero xs) t k).got = -1 ∨ 0 ≤ (acRun n (acZero xs) t k).got ∧ (acRun n (acZero xs) t k).got < t
  | 0, _ => .inl rfl
  | t + 1, k => by
    have ih := ac_range n xs t k
    rcases acS_got n t (acRun n (acZero xs) t) k with h | ⟨_, _, _, h⟩
    · rw [acRun, h]; omega
    · rw [acRun, h]; omega
theorem ac_apart (n : Nat) (xs : List Int) : ∀ t j k, j < n → k < n → j ≠ k → 0 ≤ (acRun n (acZero xs) t k).got → (acRun n (acZero xs) t j).got ≠ (acRun n (acZero xs) t k).got
  | 0, _, k, _, _, _, h => absurd (show (0 : Int) ≤ -1 from h) (by decide)
  | t + 1, j, k, hj, hk, hjk, h => by
    have rj := ac_range n xs t j
    have rk := ac_range n xs t k
    rw [acRun] at *
    rcases acS_got n t (acRun n (acZero xs) t) k with h1 | ⟨_, ak, hN, h1⟩
    · rcases acS_got n t (acRun n (acZero xs) t) j with h2 | ⟨_, aj, hN, h2⟩
      · rw [h1, h2]
        rw [h1] at h
        exact ac_apart n xs t j k hj hk hjk h
      · rw [h1, h2]; omega
    · rcases acS_got n t (acRun n (acZero xs) t) j with h2 | ⟨_, aj, _, h2⟩
      · rw [h1, h2]; omega
      · exact absurd (acN_one hN hj hk aj ak) hjk
theorem ac_stay {n : Nat} {S : Nat → AcSd} {t k : Nat} (h : 0 ≤ (acRun n S t k).got) : ∀ d, (acRun n S (t + d) k).got = (acRun n S t k).got
  | 0 => rfl
  | d + 1 => by
    have ih := ac_stay h d
    rcases acS_got n (t + d) (acRun n S (t + d)) k with h1 | ⟨h0, _, _, _⟩
    · show (acS n (t + d) (acRun n S (t + d)) k).got = _
      rw [h1, ih]
    · omega
theorem ac_single (xs : List Int) : (acRun 1 (acZero xs) 400 0).got = 0 := by
  have h1 : (acRun 1 (acZero xs) 1 0).got = 0 := rfl
  have := ac_stay (n := 1) (S := acZero xs) (t := 1) (k := 0) (by rw [h1]; decide) 399
  rw [h1] at this
  exact this
theorem ac_first {n : Nat} (hn : 2 ≤ n) (xs : List Int) (k : Nat) (hk : k < n) : ∀ t, (acRun n (acZero xs) t k).got ≠ 0
  | 0 => by show (-1 : Int) ≠ 0; decide
  | t + 1 => by
    have ih := ac_first hn xs k hk t
    rcases acS_got n t (acRun n (acZero xs) t) k with h | ⟨_, _, hN, h⟩
    · rw [acRun, h]; exact ih
    · rw [acRun, h]
      intro e
      have ht : t = 0 := by omega
      subst ht
      rw [show acN 0 (acRun n (acZero xs) 0) n = n from acN_all fun k _ => rfl] at hN
      omega
/-- Two senders with one seed. -/
theorem ac_twins {S : Nat → AcSd} (h : S 0 = S 1) (h0 : (S 0).got = -1) : ∀ t, acRun 2 S t 0 = acRun 2 S t 1 ∧ (acRun 2 S t 0).got = -1
  | 0 => ⟨h, h0⟩
  | t + 1 => by
    obtain ⟨e, hg⟩ := ac_twins h h0 t
    have hN : acN t (acRun 2 S t) 2 ≠ 1 := by
      show 0 + (acts t (acRun 2 S t 0)).toNat + (acts t (acRun 2 S t 1)).toNat ≠ 1
      rw [← e]
      cases acts t (acRun 2 S t 0) <;> decide
    have e2 : acS 2 t (acRun 2 S t) 0 = acS 2 t (acRun 2 S t) 1 := by unfold acS; rw [e]
    refine ⟨e2, ?_⟩
    rcases acS_got 2 t (acRun 2 S t) 0 with h1 | ⟨_, _, h2, _⟩
    · rw [acRun, h1, hg]
    · exact absurd h2 hN
/-- The order of the senders. -/
theorem acN_sum (t : Nat) (S : Nat → AcSd) : ∀ n, (acN t S n : Int) = sqS (fun k => ((acts t (S k)).toNat : Int)) n
  | 0 => rfl
  | n + 1 => by
    show ((acN t S n + (acts t (S n)).toNat : Nat) : Int) = sqS (fun k => ((acts t (S k)).toNat : Int)) n + ((acts t (S n)).toNat : Int)
    rw [← acN_sum t S n]; omega
theorem acN_turn (t n : Nat) (S : Nat → AcSd) : acN t (fun k => S (n - 1 - k)) n = acN t S n := by
  have h1 := acN_sum t (fun k => S (n - 1 - k)) n
  have h2 := acN_sum t S n
  rw [← sqS_rev n fun k => ((acts t (S k)).toNat : Int)] at h2
  omega
theorem ac_turn {n : Nat} {S R : Nat → AcSd} (h : ∀ k, k < n → R k = S (n - 1 - k)) : ∀ t k, k < n → acRun n R t k = acRun n S t (n - 1 - k)
  | 0, k, hk => h k hk
  | t + 1, k, hk => by
    have ih := ac_turn h t
    have hN : acN t (acRun n R t) n = acN t (acRun n S t) n := by rw [acN_congr ih, acN_turn]
    show acS n t (acRun n R t) k = acS n t (acRun n S t) (n - 1 - k)
    unfold acS
    rw [ih k hk, hN]
theorem el_rev {xs : List Int} {k : Nat} (hk : k < xs.length) : el xs.reverse k = el xs (xs.length - 1 - k) := by
  simp [el, hk, show xs.length - 1 - k < xs.length by omega]
theorem acF_turn {xs : List Int} {k : Nat} (hk : k < xs.length) : acF xs.reverse k = acF xs (xs.length - 1 - k) := by
  unfold acF
  rw [List.length_reverse, ac_turn (S := acZero xs) (fun k hk => ?_) 400 k hk]
  unfold acZero
  rw [el_rev hk]
theorem acOk_turn (xs : List Int) : acOk xs.reverse = acOk xs := by unfold acOk; rw [List.length_reverse, List.all_reverse]
/-- What AccessRun answers, case by case. -/
theorem acOr_no {xs : List Int} (h : acOk xs = false) : acOr xs = [] := by simp [acOr, h]
theorem acOr_yes {xs : List Int} (h : acOk xs = true) : acOr xs = (List.range xs.length).map (acF xs) := by simp [acOr, h]
theorem acOr_el {xs : List Int} (h : acOk xs = true) {k : Nat} (hk : k < xs.length) : el (acOr xs) k = acF xs k := by rw [acOr_yes h]; simp [el, hk]
theorem acOr_len {xs : List Int} (h : acOk xs = true) : (acOr xs).length = xs.length := by rw [acOr_yes h]; simp
theorem acOr_turn (xs : List Int) : acOr xs.reverse = (acOr xs).reverse := by
  cases h : acOk xs
  · rw [acOr_no h, acOr_no (by rw [acOk_turn, h])]; rfl
  · have h' : acOk xs.reverse = true := by rw [acOk_turn, h]
    refine list_ext9 (by rw [acOr_len h', List.length_reverse, List.length_reverse, acOr_len h]) fun k hk => ?_
    rw [acOr_len h', List.length_reverse] at hk
    rw [acOr_el h' (by rw [List.length_reverse]; exact hk), acF_turn hk, ← acOr_el h (by omega)]
    have hl := acOr_len h
    rw [el_rev (by omega), hl]
theorem acOr_facts {xs : List Int} (h : acOk xs = true) {k : Nat} (hk : k < xs.length) : (-1 ≤ el (acOr xs) k ∧ el (acOr xs) k < 400) ∧ (xs.length = 1 → el (acOr xs) k = 0) ∧ (1 < xs.length → el (acOr xs) k ≠ 0) ∧ ∀ j, j < k → 0 ≤ el (acOr xs) k → el (acOr xs) j ≠ el (acOr xs) k := by
  rw [acOr_el h hk]
  refine ⟨?_, fun h1 => ?_, fun h1 => ac_first (by omega) xs k hk 400, fun j hj h0 => ?_⟩
  · have := ac_range xs.length xs 400 k
    unfold acF; omega
  · obtain rfl : k = 0 := by omega
    unfold acF; rw [h1]; exact ac_single xs
  · rw [acOr_el h (by omega)]
    exact ac_apart xs.length xs 400 j k (by omega) hk (by omega) h0
theorem acOr_twins {x : Int} (h : sdIn x = true) : acOr [x, x] = [-1, -1] := by
  have hok : acOk [x, x] = true := by simp [acOk, h]
  rw [acOr_yes hok]
  have ht := ac_twins (S := acZero [x, x]) rfl rfl 400
  show [acF [x, x] 0, acF [x, x] 1] = _
  unfold acF
  rw [show [x, x].length = 2 from rfl, ← ht.1, ht.2]
end Go.Proofs.Ytenihedpbklmlaa
