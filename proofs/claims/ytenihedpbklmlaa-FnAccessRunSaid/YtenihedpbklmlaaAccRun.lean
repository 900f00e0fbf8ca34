/-
  The queue of waiting senders and the state of all senders: mathematics. No condition; plain lemmas.
-/
import Derived.Test.YtenihedpbklmlaaAccHp
import Derived.Test.YtenihedpbklmlaaAcc7
namespace Go.Proofs.Ytenihedpbklmlaa
open Go.RowKit

/-- Sender k of a state; the senders below n that wait. -/
def wtOf (S : Nat → AcSd) (k : Nat) : Wt := ⟨k, (S k).at', (S k).seed, (S k).bad⟩
def pend (S : Nat → AcSd) : Nat → List Wt
  | 0 => []
  | n + 1 => pend S n ++ (if (S n).got < 0 then [wtOf S n] else [])
theorem pend_next (S : Nat → AcSd) (n : Nat) : pend S (n + 1) = pend S n ++ (if (S n).got < 0 then [wtOf S n] else []) := rfl
theorem pend_congr {S R : Nat → AcSd} : ∀ {n : Nat}, (∀ k, k < n → S k = R k) → pend S n = pend R n
  | 0, _ => rfl
  | n + 1, h => by
    rw [pend_next, pend_next, pend_congr fun k hk => h k (by omega)]
    unfold wtOf
    rw [h n (by omega)]
theorem pend_mem {S : Nat → AcSd} : ∀ {n : Nat} {x : Wt}, x ∈ pend S n ↔ ∃ k, k < n ∧ (S k).got < 0 ∧ x = wtOf S k
  | 0, x => by simp [pend]
  | n + 1, x => by
    rw [pend_next, List.mem_append, pend_mem (n := n)]
    constructor
    · rintro (⟨k, h1, h2, h3⟩ | h)
      · exact ⟨k, by omega, h2, h3⟩
      · split at h
        · next hg => exact ⟨n, by omega, hg, by simpa using h⟩
        · simp at h
    · rintro ⟨k, h1, h2, h3⟩
      by_cases e : k = n
      · subst e; right; rw [if_pos h2]; simpa using h3
      · exact .inl ⟨k, by omega, h2, h3⟩
theorem pend_zero (xs : List Int) : ∀ n, pend (acZero xs) n = qL xs n
  | 0 => rfl
  | n + 1 => by
    rw [pend_next, qL_next, pend_zero xs n]
    rfl
/-- Until the next slot that is used nothing changes. -/
theorem ac_wait {n t : Nat} {S : Nat → AcSd} {m : Nat} (h : ∀ x ∈ pend (acRun n S t) n, m ≤ x.s) : ∀ d, t + d ≤ m → ∀ k, k < n → acRun n S (t + d) k = acRun n S t k
  | 0, _, _, _ => rfl
  | d + 1, hd, k, hk => by
    have ih := ac_wait h d (by omega)
    show acS n (t + d) (acRun n S (t + d)) k = _
    unfold acS
    rw [ih k hk]
    have ha : acts (t + d) (acRun n S t k) = false := by
      rw [Bool.eq_false_iff]
      intro ha
      simp only [acts, Bool.and_eq_true, decide_eq_true_eq] at ha
      have := h _ (pend_mem.2 ⟨k, hk, ha.1, rfl⟩)
      have h2 : m ≤ (acRun n S t k).at' := this
      omega
    rw [ha]
    rfl
theorem ac_until {n t m : Nat} {S : Nat → AcSd} (h : ∀ x ∈ pend (acRun n S t) n, m ≤ x.s) (ht : t ≤ m) {k : Nat} (hk : k < n) : acRun n S m k = acRun n S t k := by
  have := ac_wait h (m - t) (by omega) k hk
  rwa [show t + (m - t) = m by omega] at this
/-- How many act. -/
theorem acN_filter (m : Nat) (S : Nat → AcSd) : ∀ n, acN m S n = ((pend S n).filter fun x => decide (x.s = m)).length
  | 0 => rfl
  | n + 1 => by
    rw [acN, pend_next, List.filter_append, List.length_append, acN_filter m S n]
    congr 1
    unfold acts
    by_cases h : (S n).got < 0
    · rw [if_pos h]
      by_cases h2 : (S n).at' = m
      · simp [h, h2, wtOf]
      · simp [h, h2, wtOf]
    · rw [if_neg h]; simp [h]
theorem filter_split {M T : List Wt} {m : Nat} (hT : ∀ x ∈ T, x.s = m) (hM : ∀ x ∈ M, m < x.s) : ((M ++ T).filter fun x => decide (x.s = m)) = T := by
  rw [List.filter_append, List.filter_eq_nil_iff.2 (fun x hx => by have := hM x hx; simp; omega), List.filter_eq_self.2 (fun x hx => by simpa using hT x hx)]
  rfl
theorem acN_split {S : Nat → AcSd} {n m : Nat} {L M T : List Wt} (hL : L.Perm (pend S n)) (hp : L.Perm (M ++ T)) (hT : ∀ x ∈ T, x.s = m) (hM : ∀ x ∈ M, m < x.s) : acN m S n = T.length := by
  rw [acN_filter, ((hL.symm.trans hp).filter _).length_eq, filter_split hT hM]
/-- One is alone: it waits no more. -/
theorem pend_hit (N m : Nat) (S : Nat → AcSd) (h1 : acN m S N = 1) : ∀ n, pend (acS N m S) n = (pend S n).filter fun x => !decide (x.s = m)
  | 0 => rfl
  | n + 1 => by
    rw [pend_next, pend_next, List.filter_append, pend_hit N m S h1 n]
    congr 1
    unfold acS
    by_cases h : (S n).got < 0
    · by_cases h2 : (S n).at' = m
      · have ha : acts m (S n) = true := by simp [acts, h, h2]
        rw [ha, if_pos rfl, if_pos h1, if_pos h, if_neg (by show ¬ (m : Int) < 0; omega)]
        simp [wtOf, h2]
      · have ha : acts m (S n) = false := by simp [acts, h2]
        rw [ha, if_pos h]
        simp [h, wtOf, h2, ha]
    · have ha : acts m (S n) = false := by simp [acts, h]
      rw [ha, if_neg h]
      simp [h]
/-- Several collide: they wait anew. -/
theorem pend_miss (N m : Nat) (S : Nat → AcSd) (h1 : acN m S N ≠ 1) : ∀ n, pend (acS N m S) n = (pend S n).map fun x => if x.s = m then wtMiss x else x
  | 0 => rfl
  | n + 1 => by
    rw [pend_next, pend_next, List.map_append, pend_miss N m S h1 n]
    congr 1
    unfold acS
    by_cases h : (S n).got < 0
    · by_cases h2 : (S n).at' = m
      · have ha : acts m (S n) = true := by simp [acts, h, h2]
        rw [ha, if_pos rfl, if_neg h1, if_pos h, if_pos (by show (S n).got < 0; exact h)]
        simp [wtOf, wtMiss, acMiss, h2, ha, h1, Nat.add_assoc]
      · have ha : acts m (S n) = false := by simp [acts, h2]
        rw [ha, if_pos h]
        simp [h, wtOf, h2, ha]
    · have ha : acts m (S n) = false := by simp [acts, h]
      rw [ha, if_neg h]
      simp [h]
theorem perm_hit {S : Nat → AcSd} {n m : Nat} {L M : List Wt} {y : Wt} (hL : L.Perm (pend S n)) (hp : L.Perm (M ++ [y])) (hy : y.s = m) (hM : ∀ x ∈ M, m < x.s) : M.Perm (pend (acS n m S) n) := by
  have h1 := acN_split hL hp (fun x hx => by rw [List.mem_singleton.1 hx]; exact hy) hM
  rw [pend_hit n m S h1 n]
  have h2 := (hL.symm.trans hp).filter fun x => !decide (x.s = m)
  refine List.Perm.trans ?_ h2.symm
  rw [List.filter_append, List.filter_eq_self.2 (fun x hx => by have := hM x hx; simp; omega), List.filter_eq_nil_iff.2 (fun x hx => by rw [List.mem_singleton.1 hx]; simp [hy]), List.append_nil]
theorem perm_miss {S : Nat → AcSd} {n m : Nat} {L M T : List Wt} (hL : L.Perm (pend S n)) (hp : L.Perm (M ++ T)) (hT : ∀ x ∈ T, x.s = m) (hM : ∀ x ∈ M, m < x.s) (h1 : T.length ≠ 1) : (M ++ T.map wtMiss).Perm (pend (acS n m S) n) := by
  have h0 := acN_split hL hp hT hM
  rw [pend_miss n m S (by omega) n]
  have h2 := (hL.symm.trans hp).map fun x => if x.s = m then wtMiss x else x
  refine List.Perm.trans ?_ h2.symm
  have e1 : M.map (fun x => if x.s = m then wtMiss x else x) = M := (List.map_congr_left (g := id) fun x hx => if_neg (by have := hM x hx; omega)).trans (List.map_id M)
  have e2 : T.map (fun x => if x.s = m then wtMiss x else x) = T.map wtMiss := List.map_congr_left fun x hx => if_pos (hT x hx)
  rw [List.map_append, e1, e2]
/-- The slots of success. -/
theorem got_hit {S : Nat → AcSd} {n m : Nat} {L M : List Wt} {y : Wt} (hL : L.Perm (pend S n)) (hp : L.Perm (M ++ [y])) (hy : y.s = m) (hM : ∀ x ∈ M, m < x.s) : y.n < n ∧ ∀ k, k < n → (acS n m S k).got = if k = y.n then (m : Int) else (S k).got := by
  have h1 : acN m S n = 1 := acN_split hL hp (fun x hx => by rw [List.mem_singleton.1 hx]; exact hy) hM
  have hmem : ∀ x, x ∈ pend S n ↔ x ∈ M ∨ x = y := fun x => by rw [(hL.symm.trans hp).mem_iff]; simp
  obtain ⟨k0, hk0, hg0, e0⟩ := pend_mem.1 ((hmem y).2 (.inr rfl))
  have hn : y.n = k0 := by rw [e0]; rfl
  have hs : (S k0).at' = m := by rw [← hy, e0]; rfl
  refine ⟨by omega, fun k hk => ?_⟩
  unfold acS
  by_cases e : k = y.n
  · obtain rfl : k = k0 := by omega
    have ha : acts m (S k) = true := by simp [acts, hg0, hs]
    rw [ha, if_pos rfl, if_pos h1, if_pos e]
    rfl
  · have ha : acts m (S k) = false := by
      rw [Bool.eq_false_iff]
      intro ha
      simp only [acts, Bool.and_eq_true, decide_eq_true_eq] at ha
      rcases (hmem (wtOf S k)).1 (pend_mem.2 ⟨k, hk, ha.1, rfl⟩) with h | h
      · have h3 := hM _ h
        have h4 : m < (S k).at' := h3
        omega
      · exact e (by rw [← h]; rfl)
    rw [ha, if_neg e]
    simp
theorem got_miss {S : Nat → AcSd} {n m : Nat} (h1 : acN m S n ≠ 1) (k : Nat) : (acS n m S k).got = (S k).got := by
  unfold acS
  cases acts m (S k)
  · rfl
  · rw [if_pos rfl, if_neg h1]; rfl
/-- Seeds in their range; no more failures than slots. -/
def AcIn (S : Nat → AcSd) (n : Nat) : Prop := ∀ k, k < n → (S k).seed < 2048 ∧ (S k).bad ≤ (S k).at'
theorem acIn_zero {xs : List Int} (h : svTo 2047 xs xs.length) : AcIn (acZero xs) xs.length := fun k hk => by
  have := h k hk
  refine ⟨?_, Nat.le_refl _⟩
  show (el xs k).toNat < 2048
  omega
theorem acIn_next {S : Nat → AcSd} {n : Nat} (h : AcIn S n) (m : Nat) : AcIn (acS n m S) n := fun k hk => by
  obtain ⟨h1, h2⟩ := h k hk
  unfold acS
  by_cases ha : acts m (S k) = true
  · rw [ha, if_pos rfl]
    simp only [acts, Bool.and_eq_true, decide_eq_true_eq] at ha
    split
    · exact ⟨h1, h2⟩
    · refine ⟨acNx_lt _, ?_⟩
      show (S k).bad + 1 ≤ m + 1 + _
      omega
  · rw [Bool.eq_false_iff.2 ha]
    exact ⟨h1, h2⟩
theorem acIn_run {xs : List Int} (h : svTo 2047 xs xs.length) : ∀ t, AcIn (acRun xs.length (acZero xs) t) xs.length
  | 0 => acIn_zero h
  | t + 1 => acIn_next (acIn_run h t) t
end Go.Proofs.Ytenihedpbklmlaa
