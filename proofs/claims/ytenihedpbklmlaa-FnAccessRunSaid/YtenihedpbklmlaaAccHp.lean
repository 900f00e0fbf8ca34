/-
  Heaps of waiting senders: mathematics. No condition; plain lemmas.
-/
import Derived.Test.YtenihedpbklmlaaAcc3
namespace Go.Proofs.Ytenihedpbklmlaa
open Go.RowKit

def sl (L : List Wt) (i : Nat) : Nat := (qn L i).s
theorem swp_length (L : List Wt) (i j : Nat) : (swp L i j).length = L.length := by simp [swp]
theorem qn_swp {L : List Wt} {i j : Nat} (hi : i < L.length) (hj : j < L.length) (k : Nat) (hk : k < L.length) : qn (swp L i j) k = if k = j then qn L i else if k = i then qn L j else qn L k := by
  unfold swp
  rw [qn_set (by rw [List.length_set]; exact hj) (by rw [List.length_set]; exact hk), qn_set hi hk]
theorem sl_swp {L : List Wt} {i j : Nat} (hi : i < L.length) (hj : j < L.length) (k : Nat) (hk : k < L.length) : sl (swp L i j) k = if k = j then sl L i else if k = i then sl L j else sl L k := by
  unfold sl
  rw [qn_swp hi hj k hk]
  split <;> (try split) <;> rfl
theorem qn_get {L : List Wt} {i : Nat} (hi : i < L.length) : qn L i = L[i] := by unfold qn; simp [hi]
theorem swp_perm {L : List Wt} {i j : Nat} (hi : i < L.length) (hj : j < L.length) : (swp L i j).Perm L := by
  unfold swp
  rw [qn_get hi, qn_get hj]
  exact List.set_set_perm hi hj
/-- A heap; its first is least. -/
def Hp (L : List Wt) (n : Nat) : Prop := ∀ c, 0 < c → c < n → sl L ((c - 1) / 2) ≤ sl L c
theorem hp_least {L : List Wt} {n : Nat} (h : Hp L n) : ∀ c, c < n → sl L 0 ≤ sl L c := by
  intro c
  induction c using Nat.strongRecOn with
  | ind c ih =>
    intro hc
    by_cases e : c = 0
    · subst e; exact Nat.le_refl _
    · exact Nat.le_trans (ih ((c - 1) / 2) (by omega) (by omega)) (h c (by omega) hc)
/-- A heap but for one sender that may be too low; too high. -/
def HpUp (L : List Wt) (j : Nat) : Prop := (∀ c, 0 < c → c < L.length → c ≠ j → sl L ((c - 1) / 2) ≤ sl L c) ∧ ∀ c, 0 < j → 0 < c → c < L.length → (c - 1) / 2 = j → sl L ((j - 1) / 2) ≤ sl L c
def HpDn (L : List Wt) (n i : Nat) : Prop := (∀ c, 0 < c → c < n → (c - 1) / 2 ≠ i → sl L ((c - 1) / 2) ≤ sl L c) ∧ ∀ c, 0 < i → 0 < c → c < n → (c - 1) / 2 = i → sl L ((i - 1) / 2) ≤ sl L c
theorem hpUp_end {L : List Wt} {j : Nat} (h : HpUp L j) (hj : j = 0 ∨ sl L ((j - 1) / 2) ≤ sl L j) : Hp L L.length := fun c h0 hc => by
  by_cases e : c = j
  · subst e
    rcases hj with hj | hj
    · omega
    · exact hj
  · exact h.1 c h0 hc e
theorem hpUp_step {L : List Wt} {j : Nat} (h : HpUp L j) (hj : j < L.length) (h0 : 0 < j) (hlt : sl L j < sl L ((j - 1) / 2)) : HpUp (swp L ((j - 1) / 2) j) ((j - 1) / 2) := by
  obtain ⟨i, hi⟩ : ∃ i, i = (j - 1) / 2 := ⟨_, rfl⟩
  rw [← hi] at hlt ⊢
  have hil : i < L.length := by omega
  have S := fun k hk => sl_swp (L := L) hil hj k hk
  refine ⟨fun c c0 hc hne => ?_, fun c i0 c0 hc he => ?_⟩
  · rw [swp_length] at hc
    rw [S c hc, S ((c - 1) / 2) (by omega)]
    by_cases e1 : c = j
    · subst e1
      rw [← hi, if_neg (by omega), if_pos rfl, if_pos rfl]
      omega
    · rw [if_neg e1, if_neg hne]
      by_cases e2 : (c - 1) / 2 = j
      · rw [if_pos e2]
        have := h.2 c h0 c0 hc e2
        rw [← hi] at this
        exact this
      · rw [if_neg e2]
        by_cases e3 : (c - 1) / 2 = i
        · rw [if_pos e3]
          have := h.1 c c0 hc e1
          rw [e3] at this
          omega
        · rw [if_neg e3]
          exact h.1 c c0 hc e1
  · rw [swp_length] at hc
    have hp : sl L ((i - 1) / 2) ≤ sl L i := h.1 i i0 hil (by omega)
    rw [S c hc, S ((i - 1) / 2) (by omega), if_neg (by omega), if_neg (by omega)]
    by_cases e1 : c = j
    · rw [if_pos e1]; exact hp
    · rw [if_neg e1, if_neg (by omega)]
      have := h.1 c c0 hc e1
      rw [he] at this
      omega
theorem hpDn_end {L : List Wt} {n i : Nat} (h : HpDn L n i) (hi : ∀ c, 0 < c → c < n → (c - 1) / 2 = i → sl L i ≤ sl L c) : Hp L n := fun c h0 hc => by
  by_cases e : (c - 1) / 2 = i
  · rw [e]; exact hi c h0 hc e
  · exact h.1 c h0 hc e
theorem hpDn_step {L : List Wt} {n i j : Nat} (h : HpDn L n i) (hn : n ≤ L.length) (hj0 : 0 < j) (hj : j < n) (hji : (j - 1) / 2 = i) (hmin : ∀ c, 0 < c → c < n → (c - 1) / 2 = i → sl L j ≤ sl L c) (hlt : sl L j < sl L i) : HpDn (swp L i j) n j := by
  have hil : i < L.length := by omega
  have hjl : j < L.length := by omega
  have S := fun k hk => sl_swp (L := L) hil hjl k hk
  refine ⟨fun c c0 hc hne => ?_, fun c _ c0 hc he => ?_⟩
  · rw [S c (by omega), S ((c - 1) / 2) (by omega), if_neg hne]
    by_cases e1 : c = j
    · subst e1
      rw [if_pos hji, if_pos rfl]
      omega
    · rw [if_neg e1]
      by_cases e2 : c = i
      · subst e2
        rw [if_pos rfl, if_neg (by omega)]
        exact h.2 j c0 hj0 hj hji
      · rw [if_neg e2]
        by_cases e3 : (c - 1) / 2 = i
        · rw [if_pos e3]
          exact hmin c c0 hc e3
        · rw [if_neg e3]
          exact h.1 c c0 hc e3
  · rw [S c (by omega), S ((j - 1) / 2) (by omega), hji, if_neg (by omega), if_pos rfl, if_neg (by omega), if_neg (by omega)]
    have := h.1 c c0 hc (by omega)
    rw [he] at this
    exact this
/-- The ways in. -/
theorem sl_app {L : List Wt} {y : Wt} {i : Nat} (hi : i < L.length) : sl (L ++ [y]) i = sl L i := by
  unfold sl qn
  rw [List.getD_eq_getElem?_getD, List.getD_eq_getElem?_getD, List.getElem?_append_left hi]
theorem hpUp_push {L : List Wt} (h : Hp L L.length) (y : Wt) : HpUp (L ++ [y]) L.length := by
  refine ⟨fun c c0 hc hne => ?_, fun c _ c0 hc he => ?_⟩
  · rw [List.length_append, List.length_singleton] at hc
    rw [sl_app (show c < L.length by omega), sl_app (show (c - 1) / 2 < L.length by omega)]
    exact h c c0 (by omega)
  · rw [List.length_append, List.length_singleton] at hc
    omega
theorem hpDn_pop {L : List Wt} {n : Nat} (h : Hp L L.length) (hn : L.length = n + 1) : HpDn (swp L 0 n) n 0 := by
  have h0 : 0 < L.length := by omega
  have hl : n < L.length := by omega
  refine ⟨fun c c0 hc hne => ?_, fun c i0 => absurd i0 (by omega)⟩
  rw [sl_swp h0 hl c (by omega), sl_swp h0 hl ((c - 1) / 2) (by omega), if_neg (by omega), if_neg hne, if_neg (by omega), if_neg (by omega)]
  exact h c c0 (by omega)
theorem hp_take {L : List Wt} {n : Nat} (h : Hp L n) (hn : n ≤ L.length) : Hp (L.take n) (L.take n).length := fun c c0 hc => by
  rw [List.length_take] at hc
  have e : ∀ k, k < n → sl (L.take n) k = sl L k := fun k hk => by unfold sl qn; simp [hk]
  rw [e c (by omega), e ((c - 1) / 2) (by omega)]
  exact h c c0 (by omega)
theorem take_last {L : List Wt} {n : Nat} (hn : L.length = n + 1) : L = L.take n ++ [qn L n] := by
  have h1 : L.take (n + 1) = L.take n ++ [L[n]] := (List.take_append_getElem (by omega)).symm
  rw [List.take_of_length_le (by omega)] at h1
  rw [qn_get (by omega)]
  exact h1
end Go.Proofs.Ytenihedpbklmlaa
