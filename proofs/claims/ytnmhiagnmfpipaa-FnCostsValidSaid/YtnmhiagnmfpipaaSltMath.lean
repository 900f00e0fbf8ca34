/-
  Schedules: mathematics, what the functions of chapter 17 answer. No condition; plain lemmas.
-/
import Derived.Test.YtnmhiagnmfpipaaSeqMath
namespace Go.Proofs.Ytnmhiagnmfpipaa
open Go.RowKit

/-- A list misses a number up to its length; distinct numbers below M are at most M. -/
theorem misses : ∀ (m : Nat) (N : List Nat), N.length = m → ∃ c, c ≤ m ∧ c ∉ N
  | 0, N, h => ⟨0, Nat.le_refl _, by rw [List.length_eq_zero_iff.1 h]; simp⟩
  | m + 1, N, h => by
    by_cases hm : m + 1 ∈ N
    · obtain ⟨c, h1, h2⟩ := misses m (N.erase (m + 1)) (by rw [List.length_erase_of_mem hm, h]; rfl)
      exact ⟨c, by omega, fun hc => h2 ((List.mem_erase_of_ne (by omega)).2 hc)⟩
    · exact ⟨m + 1, Nat.le_refl _, hm⟩
theorem distinct_le : ∀ (M : Nat) (N : List Nat), N.Nodup → (∀ x ∈ N, x < M) → N.length ≤ M
  | 0, N, _, h => by
    match N, h with
    | [], _ => exact Nat.le_refl _
    | x :: _, h => exact absurd (h x List.mem_cons_self) (Nat.not_lt_zero _)
  | M + 1, N, hn, h => by
    by_cases hm : M ∈ N
    · have h1 := distinct_le M (N.erase M) (hn.erase M) fun x hx => by
        have h2 := (hn.mem_erase_iff).1 hx
        have := h x h2.2
        have := h2.1
        omega
      rw [List.length_erase_of_mem hm] at h1
      omega
    · have h1 := distinct_le M N hn fun x hx => by
        have := h x hx
        by_cases e : x = M
        · subst e; exact absurd hx hm
        · omega
      omega
/-- Slots of a list; a slot that is free for a station. -/
def nl (s : List Nat) (i : Nat) : Nat := (s[i]?).getD 0
def cfFree (g : Nat → Nat → Bool) (s : List Nat) (i c : Nat) : Nat → Bool
  | 0 => true
  | j + 1 => cfFree g s i c j && !(g i j && decide (nl s j = c))
theorem cfFree_iff {g : Nat → Nat → Bool} {s : List Nat} {i c : Nat} : ∀ {n : Nat}, cfFree g s i c n = true ↔ ∀ j, j < n → g i j = true → nl s j ≠ c
  | 0 => ⟨fun _ j hj => absurd hj (Nat.not_lt_zero _), fun _ => rfl⟩
  | n + 1 => by
    rw [cfFree, Bool.and_eq_true, cfFree_iff]
    simp only [Bool.not_eq_true', Bool.and_eq_false_iff, decide_eq_false_iff_not]
    constructor
    · rintro ⟨h1, h2⟩ j hj hg
      by_cases e : j = n
      · subst e; rcases h2 with h2 | h2
        · rw [h2] at hg; cases hg
        · exact h2
      · exact h1 j (by omega) hg
    · intro h
      refine ⟨fun j hj hg => h j (by omega) hg, ?_⟩
      cases hg : g i n
      · exact .inl rfl
      · exact .inr (h n (by omega) hg)
theorem nl_app {s : List Nat} {c j : Nat} (h : j < s.length) : nl (s ++ [c]) j = nl s j := by unfold nl; rw [List.getElem?_append_left h]
theorem nl_last (s : List Nat) (c : Nat) : nl (s ++ [c]) s.length = c := by unfold nl; simp
theorem nl_take {s : List Nat} {j k : Nat} (h : j < k) : nl (s.take k) j = nl s j := by unfold nl; rw [List.getElem?_take_of_lt h]
/-- No conflict among the slots of a list. -/
def Proper (g : Nat → Nat → Bool) (s : List Nat) : Prop := ∀ i, i < s.length → ∀ j, j < i → g i j = true → nl s i ≠ nl s j
theorem proper_nil (g : Nat → Nat → Bool) : Proper g [] := fun _ hi => absurd hi (Nat.not_lt_zero _)
theorem proper_snoc {g : Nat → Nat → Bool} {s : List Nat} {c : Nat} (h : Proper g s) (hf : cfFree g s s.length c s.length = true) : Proper g (s ++ [c]) := fun i hi j hj hg => by
  rw [List.length_append, List.length_singleton] at hi
  by_cases e : i = s.length
  · subst e
    rw [nl_last, nl_app hj]
    exact fun e => (cfFree_iff.1 hf) j hj hg e.symm
  · rw [nl_app (by omega), nl_app (by omega)]
    exact h i (by omega) j hj hg
theorem proper_take {g : Nat → Nat → Bool} {s : List Nat} (h : Proper g s) (k : Nat) : Proper g (s.take k) := fun i hi j hj hg => by
  rw [List.length_take] at hi
  rw [nl_take (by omega), nl_take (by omega)]
  exact h i (by omega) j hj hg
theorem proper_free {g : Nat → Nat → Bool} {s : List Nat} {k : Nat} (h : Proper g s) (hk : k < s.length) : cfFree g (s.take k) (s.take k).length (nl s k) (s.take k).length = true := by
  have hl : (s.take k).length = k := by rw [List.length_take]; omega
  rw [hl, cfFree_iff]
  intro j hj hg
  rw [nl_take hj]
  exact fun e => h k hk j hj hg e.symm
/-- How many of the first n are in conflict with a station; their slots. -/
def cfN (g : Nat → Nat → Bool) (i : Nat) : Nat → Nat
  | 0 => 0
  | n + 1 => cfN g i n + (g i n).toNat
def cfL (g : Nat → Nat → Bool) (s : List Nat) (i : Nat) : Nat → List Nat
  | 0 => []
  | n + 1 => if g i n then cfL g s i n ++ [nl s n] else cfL g s i n
theorem cfL_len (g : Nat → Nat → Bool) (s : List Nat) (i : Nat) : ∀ n, (cfL g s i n).length = cfN g i n
  | 0 => rfl
  | n + 1 => by
    rw [cfL, cfN]
    cases g i n
    · rw [if_neg (by simp), cfL_len g s i n]; rfl
    · rw [if_pos rfl, List.length_append, cfL_len g s i n]; rfl
theorem cfL_mem {g : Nat → Nat → Bool} {s : List Nat} {i : Nat} : ∀ {n j : Nat}, j < n → g i j = true → nl s j ∈ cfL g s i n
  | n + 1, j, h, hg => by
    rw [cfL]
    by_cases e : j = n
    · subst e; rw [if_pos hg]; exact List.mem_append.2 (.inr (List.mem_singleton.2 rfl))
    · have := cfL_mem (s := s) (n := n) (by omega) hg
      split
      · exact List.mem_append.2 (.inl this)
      · exact this
/-- There is a free slot up to the number of conflicts. -/
theorem free_ex (g : Nat → Nat → Bool) (s : List Nat) (i n : Nat) : ∃ c, c ≤ cfN g i n ∧ cfFree g s i c n = true := by
  obtain ⟨c, h1, h2⟩ := misses _ (cfL g s i n) (cfL_len g s i n)
  exact ⟨c, h1, cfFree_iff.2 fun j hj hg e => h2 (e ▸ cfL_mem hj hg)⟩
theorem cfN_le (g : Nat → Nat → Bool) (i : Nat) : ∀ n, cfN g i n ≤ n
  | 0 => Nat.le_refl _
  | n + 1 => by have := cfN_le g i n; have : (g i n).toNat ≤ 1 := by cases g i n <;> decide
                rw [cfN]; omega
/-- The first of f numbers from c on that passes a test. -/
def firstC {α : Type} (p : Nat → Option α) : Nat → Nat → Option α
  | 0, _ => none
  | f + 1, c => match p c with
    | some x => some x
    | none => firstC p f (c + 1)
theorem firstC_some {α : Type} {p : Nat → Option α} {x : α} : ∀ {f c : Nat}, firstC p f c = some x → ∃ d, (c ≤ d ∧ d < c + f) ∧ p d = some x ∧ ∀ e, c ≤ e → e < d → p e = none
  | f + 1, c, h => by
    rw [firstC] at h
    cases hp : p c with
    | some y => rw [hp] at h; exact ⟨c, by omega, by rw [hp, ← h], fun e h1 h2 => absurd h2 (by omega)⟩
    | none =>
      rw [hp] at h
      obtain ⟨d, h1, h2, h3⟩ := firstC_some (f := f) (c := c + 1) h
      refine ⟨d, by omega, h2, fun e he1 he2 => ?_⟩
      by_cases e1 : e = c
      · subst e1; exact hp
      · exact h3 e (by omega) he2
theorem firstC_none {α : Type} {p : Nat → Option α} : ∀ {f c : Nat}, firstC p f c = none → ∀ d, c ≤ d → d < c + f → p d = none
  | 0, c, _, d, h1, h2 => by omega
  | f + 1, c, h, d, h1, h2 => by
    rw [firstC] at h
    cases hp : p c with
    | some y => rw [hp] at h; cases h
    | none =>
      rw [hp] at h
      by_cases e : d = c
      · subst e; exact hp
      · exact firstC_none h d (by omega) (by omega)
/-- The greedy slots. -/
def grC (g : Nat → Nat → Bool) (s : List Nat) : Nat := (firstC (fun c => if cfFree g s s.length c s.length then some c else none) (s.length + 1) 0).getD 0
def gr (g : Nat → Nat → Bool) : Nat → List Nat
  | 0 => []
  | i + 1 => gr g i ++ [grC g (gr g i)]
theorem gr_len (g : Nat → Nat → Bool) : ∀ n, (gr g n).length = n
  | 0 => rfl
  | n + 1 => by rw [gr, List.length_append, gr_len g n]; rfl
theorem grC_facts (g : Nat → Nat → Bool) (s : List Nat) : cfFree g s s.length (grC g s) s.length = true ∧ grC g s ≤ cfN g s.length s.length ∧ ∀ c, c < grC g s → cfFree g s s.length c s.length = false := by
  obtain ⟨c, h1, h2⟩ := free_ex g s s.length s.length
  have hle := cfN_le g s.length s.length
  cases hf : firstC (fun c => if cfFree g s s.length c s.length then some c else none) (s.length + 1) 0 with
  | none =>
    have := firstC_none hf c (by omega) (by omega)
    rw [if_pos h2] at this; cases this
  | some d =>
    obtain ⟨d', h3, h4, h5⟩ := firstC_some hf
    have hd : cfFree g s s.length d' s.length = true ∧ d' = d := by
      by_cases hfr : cfFree g s s.length d' s.length = true
      · rw [if_pos hfr] at h4; exact ⟨hfr, Option.some.inj h4⟩
      · rw [if_neg hfr] at h4; cases h4
    obtain ⟨hd1, rfl⟩ := hd
    have e : grC g s = d' := by unfold grC; rw [hf]; rfl
    have hno : ∀ c, c < d' → cfFree g s s.length c s.length = false := fun c hc => by
      have := h5 c (by omega) hc
      cases hx : cfFree g s s.length c s.length
      · rfl
      · rw [hx, if_pos rfl] at this; cases this
    rw [e]
    refine ⟨hd1, ?_, hno⟩
    by_cases hcd : c < d'
    · have := hno c hcd
      rw [h2] at this; cases this
    · omega
theorem gr_proper (g : Nat → Nat → Bool) : ∀ n, Proper g (gr g n)
  | 0 => proper_nil g
  | n + 1 => proper_snoc (gr_proper g n) (grC_facts g (gr g n)).1
theorem gr_at {g : Nat → Nat → Bool} : ∀ {n i : Nat}, i < n → nl (gr g n) i = grC g (gr g i)
  | n + 1, i, h => by
    by_cases e : i = n
    · subst e
      have h2 := nl_last (gr g i) (grC g (gr g i))
      rw [gr_len] at h2
      exact h2
    · rw [gr, nl_app (by rw [gr_len]; omega)]
      exact gr_at (by omega)
theorem gr_le {g : Nat → Nat → Bool} {n i : Nat} (h : i < n) : nl (gr g n) i ≤ cfN g i i := by
  rw [gr_at h]
  have := (grC_facts g (gr g i)).2.1
  rw [gr_len] at this
  exact this
/-- The search: slots below most for r further stations, the first ones in lexicographic order. -/
def sx (g : Nat → Nat → Bool) (most : Nat) : Nat → List Nat → Option (List Nat)
  | 0, s => some s
  | r + 1, s => firstC (fun c => if cfFree g s s.length c s.length then sx g most r (s ++ [c]) else none) most 0
def Below' (M : Nat) (s : List Nat) : Prop := ∀ i, i < s.length → nl s i < M
theorem below_snoc {M c : Nat} {s : List Nat} (h : Below' M s) (hc : c < M) : Below' M (s ++ [c]) := fun i hi => by
  rw [List.length_append, List.length_singleton] at hi
  by_cases e : i = s.length
  · subst e; rw [nl_last]; exact hc
  · rw [nl_app (by omega)]; exact h i (by omega)
theorem sx_sound {g : Nat → Nat → Bool} {M : Nat} : ∀ {r : Nat} {s t : List Nat}, sx g M r s = some t → Proper g s → Below' M s → Proper g t ∧ Below' M t ∧ t.length = s.length + r ∧ t.take s.length = s
  | 0, s, t, h, hp, hb => by
    obtain rfl := Option.some.inj h
    exact ⟨hp, hb, rfl, List.take_length⟩
  | r + 1, s, t, h, hp, hb => by
    obtain ⟨c, hc, h2, _⟩ := firstC_some h
    by_cases hf : cfFree g s s.length c s.length = true
    · rw [if_pos hf] at h2
      obtain ⟨i1, i2, i3, i4⟩ := sx_sound h2 (proper_snoc hp hf) (below_snoc hb (by omega))
      rw [List.length_append, List.length_singleton] at i3 i4
      refine ⟨i1, i2, by omega, ?_⟩
      have := congrArg (List.take s.length) i4
      rw [List.take_take, show min s.length (s.length + 1) = s.length by omega, List.take_left] at this
      exact this
    · rw [if_neg hf] at h2; cases h2
theorem take_next {s t : List Nat} {k : Nat} (h : t.take k = s) (hk : k < t.length) : t.take (k + 1) = s ++ [nl t k] := by
  rw [List.take_add_one, h]
  unfold nl
  rw [List.getElem?_eq_getElem hk]; rfl
/-- It finds slots if there are any. -/
theorem sx_complete {g : Nat → Nat → Bool} {M : Nat} {t : List Nat} (hp : Proper g t) (hb : Below' M t) : ∀ {r : Nat} {s : List Nat}, t.take s.length = s → t.length = s.length + r → (sx g M r s).isSome = true
  | 0, s, _, _ => rfl
  | r + 1, s, h, hl => by
    cases hs : sx g M (r + 1) s with
    | some x => rfl
    | none =>
      have hk : s.length < t.length := by omega
      have h1 := firstC_none hs (nl t s.length) (Nat.zero_le _) (by have := hb _ hk; omega)
      have hf := proper_free hp hk
      rw [h] at hf
      rw [if_pos hf] at h1
      have ih := sx_complete hp hb (r := r) (s := s ++ [nl t s.length]) (by rw [List.length_append]; exact take_next h hk) (by rw [List.length_append, List.length_singleton]; omega)
      rw [h1] at ih; cases ih
/-- And the first ones in lexicographic order. -/
theorem sx_least {g : Nat → Nat → Bool} {M : Nat} {t : List Nat} (hp : Proper g t) (hb : Below' M t) : ∀ {r : Nat} {s u : List Nat}, sx g M r s = some u → Proper g s → Below' M s → t.take s.length = s → t.length = s.length + r → u = t ∨ ∃ k, s.length ≤ k ∧ k < t.length ∧ u.take k = t.take k ∧ nl u k < nl t k
  | 0, s, u, h, _, _, ht, hl => by
    obtain rfl := Option.some.inj h
    refine .inl ?_
    rw [← ht, List.take_of_length_le (by omega)]
  | r + 1, s, u, h, hps, hbs, ht, hl => by
    have hk : s.length < t.length := by omega
    obtain ⟨c, hc, h2, h3⟩ := firstC_some h
    by_cases hf : cfFree g s s.length c s.length = true
    · rw [if_pos hf] at h2
      obtain ⟨_, _, i3, i4⟩ := sx_sound h2 (proper_snoc hps hf) (below_snoc hbs (by omega))
      rw [List.length_append, List.length_singleton] at i3 i4
      have hu : nl u s.length = c := by
        have := nl_take (s := u) (j := s.length) (k := s.length + 1) (by omega)
        rw [i4, nl_last] at this
        exact this.symm
      have hus : u.take s.length = s := by
        have := congrArg (List.take s.length) i4
        rw [List.take_take, show min s.length (s.length + 1) = s.length by omega, List.take_left] at this
        exact this
      have hft := proper_free hp hk
      rw [ht] at hft
      rcases Nat.lt_trichotomy c (nl t s.length) with e | e | e
      · exact .inr ⟨s.length, Nat.le_refl _, hk, by rw [hus, ht], by rw [hu]; exact e⟩
      · rcases sx_least hp hb h2 (proper_snoc hps hf) (below_snoc hbs (by omega)) (by rw [List.length_append, e]; exact take_next ht hk) (by rw [List.length_append, List.length_singleton]; omega) with h4 | ⟨k, k1, k2, k3, k4⟩
        · exact .inl h4
        · exact .inr ⟨k, by rw [List.length_append, List.length_singleton] at k1; omega, k2, k3, k4⟩
      · have h4 := h3 (nl t s.length) (Nat.zero_le _) e
        rw [if_pos hft] at h4
        have ih := sx_complete hp hb (r := r) (s := s ++ [nl t s.length]) (by rw [List.length_append]; exact take_next ht hk) (by rw [List.length_append, List.length_singleton]; omega)
        rw [h4] at ih; cases ih
    · rw [if_neg hf] at h2; cases h2
/-- The least number of slots, and the best schedule. -/
def bs (g : Nat → Nat → Bool) (n : Nat) : Option (List Nat) := firstC (fun m => sx g m n []) (n + 1) 0
theorem gr_below (g : Nat → Nat → Bool) (n : Nat) : Below' n (gr g n) := fun i hi => by
  rw [gr_len] at hi
  have := gr_le (g := g) hi
  have := cfN_le g i i
  omega
theorem bs_facts (g : Nat → Nat → Bool) (n : Nat) : ∃ s M, bs g n = some s ∧ sx g M n [] = some s ∧ M ≤ n ∧ Proper g s ∧ Below' M s ∧ s.length = n ∧ ∀ t, Proper g t → t.length = n → ∀ m, Below' m t → M ≤ m := by
  have hc := sx_complete (gr_proper g n) (gr_below g n) (r := n) (s := []) rfl (by rw [gr_len]; simp)
  cases hb : bs g n with
  | none =>
    have := firstC_none hb n (Nat.zero_le _) (by omega)
    rw [this] at hc; cases hc
  | some s =>
    obtain ⟨M, h1, h2, h3⟩ := firstC_some hb
    obtain ⟨i1, i2, i3, _⟩ := sx_sound h2 (proper_nil g) (fun i hi => absurd hi (Nat.not_lt_zero _))
    refine ⟨s, M, rfl, h2, by omega, i1, i2, by simpa using i3, fun t ht hl m hm => ?_⟩
    by_cases hmM : m < M
    · have h4 := h3 m (Nat.zero_le _) hmM
      have h5 := sx_complete ht hm (r := n) (s := []) rfl (by simpa using hl)
      rw [h4] at h5; cases h5
    · omega
/-- One more than the greatest of the first n slots. -/
def topN (s : List Nat) : Nat → Nat
  | 0 => 0
  | n + 1 => max (topN s n) (nl s n + 1)
theorem topN_ge {s : List Nat} : ∀ {n i : Nat}, i < n → nl s i < topN s n
  | n + 1, i, h => by
    rw [topN]
    by_cases e : i = n
    · subst e; omega
    · have := topN_ge (s := s) (n := n) (i := i) (by omega); omega
theorem topN_le {s : List Nat} {M : Nat} : ∀ {n : Nat}, (∀ i, i < n → nl s i < M) → topN s n ≤ M
  | 0, _ => Nat.zero_le _
  | n + 1, h => by
    have := topN_le (n := n) fun i hi => h i (by omega)
    have := h n (by omega)
    rw [topN]; omega
theorem bs_top {g : Nat → Nat → Bool} {n : Nat} {s : List Nat} (h : bs g n = some s) : topN s n ≤ topN (gr g n) n ∧ ∀ u k, bs g k = some u → k ≤ n → topN u k ≤ topN s n := by
  obtain ⟨s', M, e, _, _, hp, hb, hl, hmin⟩ := bs_facts g n
  rw [h] at e
  obtain rfl := Option.some.inj e
  have hM : topN s n ≤ M := topN_le fun i hi => hb i (by omega)
  refine ⟨Nat.le_trans hM (hmin _ (gr_proper g n) (gr_len g n) _ fun i hi => topN_ge (by rw [gr_len] at hi; exact hi)), fun u k hu hk => ?_⟩
  obtain ⟨u', M', e', _, _, _, hb', hl', hmin'⟩ := bs_facts g k
  rw [hu] at e'
  obtain rfl := Option.some.inj e'
  have h1 : topN u k ≤ M' := topN_le fun i hi => hb' i (by omega)
  refine Nat.le_trans h1 (hmin' (s.take k) (proper_take hp k) (by rw [List.length_take]; omega) _ fun i hi => ?_)
  rw [List.length_take] at hi
  rw [nl_take (by omega)]
  exact topN_ge (by omega)
/-- A group: the stations of a number's binary digits. -/
def inQ (x i : Nat) : Bool := decide (x / 2 ^ i % 2 = 1)
def okQ (g : Nat → Nat → Bool) (x n : Nat) : Prop := ∀ i, i < n → inQ x i = true → ∀ j, j < i → inQ x j = true → g i j = true
def popQ (x : Nat) : Nat → Nat
  | 0 => 0
  | n + 1 => popQ x n + (inQ x n).toNat
def memQ (x : Nat) : Nat → List Nat
  | 0 => []
  | n + 1 => if inQ x n then memQ x n ++ [n] else memQ x n
theorem memQ_len (x : Nat) : ∀ n, (memQ x n).length = popQ x n
  | 0 => rfl
  | n + 1 => by
    rw [memQ, popQ]
    cases inQ x n
    · rw [if_neg (by simp), memQ_len x n]; rfl
    · rw [if_pos rfl, List.length_append, memQ_len x n]; rfl
theorem memQ_mem {x : Nat} : ∀ {n i : Nat}, i ∈ memQ x n → i < n ∧ inQ x i = true
  | n + 1, i, h => by
    rw [memQ] at h
    split at h
    · next hq =>
      rcases List.mem_append.1 h with h | h
      · have := memQ_mem h; exact ⟨by omega, this.2⟩
      · rw [List.mem_singleton] at h; subst h; exact ⟨by omega, hq⟩
    · have := memQ_mem h; exact ⟨by omega, this.2⟩
/-- The stations of a group have different slots. -/
theorem group_le {g : Nat → Nat → Bool} {s : List Nat} {x n M : Nat} (hq : okQ g x n) (hp : Proper g s) (hl : s.length = n) (hb : Below' M s) : popQ x n ≤ M := by
  have hnd : ∀ m, m ≤ n → ((memQ x m).map (nl s)).Nodup := fun m => by
    induction m with
    | zero => intro _; exact List.nodup_nil
    | succ m ih =>
      intro hm
      rw [memQ]
      cases hx : inQ x m
      · rw [if_neg (by simp)]; exact ih (by omega)
      · rw [if_pos rfl, List.map_append, List.nodup_append]
        refine ⟨ih (by omega), by simp, fun a ha b hb' => ?_⟩
        obtain ⟨i, hi, rfl⟩ := List.mem_map.1 ha
        simp at hb'; subst hb'
        have h1 := memQ_mem hi
        exact fun e => hp m (by omega) i h1.1 (hq m (by omega) hx i h1.1 h1.2) e.symm
  have := distinct_le M _ (hnd n (Nat.le_refl _)) fun c hc => by
    obtain ⟨i, hi, rfl⟩ := List.mem_map.1 hc
    exact hb i (by have := (memQ_mem hi).1; omega)
  rw [List.length_map, memQ_len] at this
  exact this
end Go.Proofs.Ytnmhiagnmfpipaa
