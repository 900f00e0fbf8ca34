/-
  Routes and the search with a queue: mathematics, what the functions of chapter 18 answer. No condition; plain lemmas.
-/
import Derived.Test.YtnmhiagnmfpipaaSltMath
namespace Go.Proofs.Ytnmhiagnmfpipaa
open Go.RowKit

/-- A way of k links from station i to station to, and what it costs; 0 is no link. -/
def Wk (g : Nat → Nat → Int) (n to : Nat) : Nat → Nat → Int → Prop
  | 0, i, c => i = to ∧ c = 0
  | k + 1, i, c => ∃ j, j < n ∧ 0 < g i j ∧ Wk g n to k j (c - g i j)
theorem Wk.nonneg {g : Nat → Nat → Int} {n to : Nat} : ∀ {k i : Nat} {c : Int}, Wk g n to k i c → 0 ≤ c
  | 0, _, _, h => by have := h.2; omega
  | k + 1, i, c, ⟨j, _, hp, h⟩ => by have := h.nonneg; omega
theorem Wk.pos {g : Nat → Nat → Int} {n to k i : Nat} {c : Int} (h : Wk g n to (k + 1) i c) : 0 < c := by
  obtain ⟨j, _, hp, h⟩ := h
  have := h.nonneg; omega
theorem Wk.link {g : Nat → Nat → Int} {n to k i j : Nat} {c : Int} (hj : j < n) (hp : 0 < g i j) (h : Wk g n to k j c) : Wk g n to (k + 1) i (g i j + c) :=
  ⟨j, hj, hp, by rw [show g i j + c - g i j = c by omega]; exact h⟩
/-- A way through a station. -/
theorem Wk.trans {g : Nat → Nat → Int} {n to mid : Nat} {m : Nat} {d : Int} (h2 : Wk g n to m mid d) : ∀ {k i : Nat} {c : Int}, Wk g n mid k i c → Wk g n to (k + m) i (c + d)
  | 0, i, c, h => by
    obtain ⟨rfl, rfl⟩ := h
    rw [Nat.zero_add, Int.zero_add]; exact h2
  | k + 1, i, c, ⟨j, hj, hp, h⟩ => by
    have h3 := h2.trans h
    rw [show k + 1 + m = k + m + 1 by omega]
    exact ⟨j, hj, hp, by rw [show c + d - g i j = c - g i j + d by omega]; exact h3⟩
/-- With links of equal cost in both directions, a way can be gone back. -/
theorem Wk.back {g : Nat → Nat → Int} {n to : Nat} (hs : ∀ i j, i < n → j < n → g i j = g j i) (hto : to < n) : ∀ {k i : Nat} {c : Int}, i < n → Wk g n to k i c → Wk g n i k to c
  | 0, i, c, _, h => by
    obtain ⟨rfl, rfl⟩ := h
    exact ⟨rfl, rfl⟩
  | k + 1, i, c, hi, ⟨j, hj, hp, h⟩ => by
    have h1 := h.back hs hto hj
    have h2 : Wk g n i 1 j (g j i) := ⟨i, hi, by rw [← hs i j hi hj]; exact hp, by rw [Int.sub_self]; exact ⟨rfl, rfl⟩⟩
    have h3 := h2.trans h1
    rw [show c = c - g i j + g j i by rw [hs i j hi hj]; omega]
    exact h3
/-- Fewer links. -/
theorem Wk.more {g g' : Nat → Nat → Int} {n to : Nat} (hg : ∀ i j, i < n → j < n → 0 < g' i j → g' i j = g i j) : ∀ {k i : Nat} {c : Int}, i < n → Wk g' n to k i c → Wk g n to k i c
  | 0, _, _, _, h => h
  | k + 1, i, c, hi, ⟨j, hj, hp, h⟩ => by
    have e := hg i j hi hj hp
    exact ⟨j, hj, by rw [← e]; exact hp, by rw [← e]; exact h.more hg hj⟩
theorem Wk.congr {g g' : Nat → Nat → Int} {n to : Nat} (hg : ∀ i j, i < n → j < n → g' i j = g i j) {k i : Nat} {c : Int} (hi : i < n) (h : Wk g' n to k i c) : Wk g n to k i c := h.more (fun i j h1 h2 _ => hg i j h1 h2) hi
/-- The least costs to a station, -1 where there is no way. -/
structure IsD (g : Nat → Nat → Int) (n to : Nat) (D : Nat → Int) : Prop where
  none_ : ∀ i, i < n → D i < 0 → D i = -1
  way : ∀ i, i < n → 0 ≤ D i → ∃ k, Wk g n to k i (D i)
  least : ∀ i, i < n → ∀ k c, Wk g n to k i c → 0 ≤ D i ∧ D i ≤ c
section
variable {g g' : Nat → Nat → Int} {n to : Nat} {D D' : Nat → Int}
theorem IsD.le_of (h : IsD g n to D) (h' : IsD g' n to D') (hg : ∀ i j, i < n → j < n → 0 < g' i j → g' i j = g i j) {i : Nat} (hi : i < n) (h0 : 0 ≤ D' i) : 0 ≤ D i ∧ D i ≤ D' i := by
  obtain ⟨k, hk⟩ := h'.way i hi h0
  exact h.least i hi k _ (hk.more hg hi)
theorem IsD.unique (h : IsD g n to D) (h' : IsD g n to D') : ∀ i, i < n → D i = D' i := fun i hi => by
  by_cases h1 : 0 ≤ D i
  · have h2 := h'.le_of h (fun _ _ _ _ _ => rfl) hi h1
    have h3 := h.le_of h' (fun _ _ _ _ _ => rfl) hi h2.1
    omega
  · by_cases h2 : 0 ≤ D' i
    · have := h.le_of h' (fun _ _ _ _ _ => rfl) hi h2
      omega
    · rw [h.none_ i hi (by omega), h'.none_ i hi (by omega)]
theorem IsD.congr (h : IsD g n to D) (e : ∀ i, i < n → D i = D' i) : IsD g n to D' :=
  ⟨fun i hi hn => by rw [← e i hi] at hn ⊢; exact h.none_ i hi hn, fun i hi h0 => by rw [← e i hi] at h0 ⊢; exact h.way i hi h0, fun i hi k c hw => by rw [← e i hi]; exact h.least i hi k c hw⟩
theorem IsD.congrG (h : IsD g n to D) (e : ∀ i j, i < n → j < n → g i j = g' i j) : IsD g' n to D :=
  ⟨h.none_, fun i hi h0 => by
    obtain ⟨k, hk⟩ := h.way i hi h0
    exact ⟨k, hk.congr (fun a b ha hb => e a b ha hb) hi⟩, fun i hi k c hw => h.least i hi k c (hw.congr (fun a b ha hb => (e a b ha hb).symm) hi)⟩
theorem IsD.self (h : IsD g n to D) (hto : to < n) : D to = 0 := by
  obtain ⟨h1, h2⟩ := h.least to hto 0 0 ⟨rfl, rfl⟩
  omega
theorem IsD.tri (h : IsD g n to D) {i j : Nat} (hi : i < n) (hj : j < n) (hp : 0 < g i j) (h0 : 0 ≤ D j) : 0 ≤ D i ∧ D i ≤ g i j + D j := by
  obtain ⟨k, hk⟩ := h.way j hj h0
  exact h.least i hi (k + 1) _ (hk.link hj hp)
theorem IsD.zero (h : IsD g n to D) {i : Nat} (hi : i < n) (h0 : D i = 0) : i = to := by
  obtain ⟨k, hk⟩ := h.way i hi (by omega)
  cases k with
  | zero => exact hk.1
  | succ k => have := hk.pos; omega
/-- Every least cost other than 0 is reached by a link. -/
theorem IsD.met (h : IsD g n to D) {i : Nat} (hi : i < n) (h0 : 0 ≤ D i) (hne : i ≠ to) : ∃ j, j < n ∧ 0 < g i j ∧ 0 ≤ D j ∧ g i j + D j = D i := by
  obtain ⟨k, hk⟩ := h.way i hi h0
  cases k with
  | zero => exact absurd hk.1 hne
  | succ k =>
    obtain ⟨j, hj, hp, hw⟩ := hk
    have h1 := h.least j hj k _ hw
    have h2 := h.tri hi hj hp h1.1
    exact ⟨j, hj, hp, h1.1, by omega⟩
/-- Costs that no link improves, each of them reached, are the least ones. -/
theorem isD_fix (hto : to < n) (h0 : D to = 0) (hn : ∀ i, i < n → D i < 0 → D i = -1) (hw : ∀ i, i < n → 0 ≤ D i → ∃ k, Wk g n to k i (D i)) (hl : ∀ i j, i < n → j < n → 0 < g i j → 0 ≤ D j → 0 ≤ D i ∧ D i ≤ g i j + D j) : IsD g n to D := by
  refine ⟨hn, hw, fun i hi k => ?_⟩
  induction k generalizing i with
  | zero =>
    rintro c ⟨rfl, rfl⟩
    omega
  | succ k ih =>
    rintro c ⟨j, hj, hp, h⟩
    have h1 := ih j hj _ h
    have h2 := hl i j hi hj hp h1.1
    omega
/-- Links of equal cost in both directions: the least costs are the same in both directions. -/
theorem IsD.back (hs : ∀ i j, i < n → j < n → g i j = g j i) (hto : to < n) {i : Nat} (hi : i < n) (h : IsD g n to D) (h' : IsD g n i D') : D' to = D i := by
  by_cases h0 : 0 ≤ D i
  · obtain ⟨k, hk⟩ := h.way i hi h0
    have h1 := h'.least to hto k _ (hk.back hs hto hi)
    obtain ⟨k', hk'⟩ := h'.way to hto h1.1
    have h2 := h.least i hi k' _ (hk'.back hs hi hto)
    omega
  · by_cases h1 : 0 ≤ D' to
    · obtain ⟨k', hk'⟩ := h'.way to hto h1
      have h2 := h.least i hi k' _ (hk'.back hs hi hto)
      omega
    · rw [h.none_ i hi (by omega), h'.none_ to hto (by omega)]
end
/-- A least way with as few links as can be has fewer than n. -/
def Opt (g : Nat → Nat → Int) (n to k i : Nat) : Prop := ∃ c, Wk g n to k i c ∧ ∀ k' c', Wk g n to k' i c' → c ≤ c'
def Mn (g : Nat → Nat → Int) (n to r i : Nat) : Prop := Opt g n to r i ∧ ∀ k, k < r → ¬ Opt g n to k i
section
variable {g : Nat → Nat → Int} {n to : Nat}
theorem opt_ex {i : Nat} : ∀ {m k : Nat} {c : Int}, c.toNat = m → Wk g n to k i c → ∃ k', Opt g n to k' i := by
  intro m
  induction m using Nat.strongRecOn with
  | ind m ih =>
    intro k c hc h
    by_cases hm : ∀ k' c', Wk g n to k' i c' → c ≤ c'
    · exact ⟨k, c, h, hm⟩
    · simp only [Classical.not_forall] at hm
      obtain ⟨k', c', h', hlt⟩ := hm
      have h1 := h'.nonneg
      exact ih c'.toNat (by omega) rfl h'
theorem mn_ex {i : Nat} : ∀ {k : Nat}, Opt g n to k i → ∃ r, Mn g n to r i := by
  intro k
  induction k using Nat.strongRecOn with
  | ind k ih =>
    intro h
    by_cases hm : ∀ k', k' < k → ¬ Opt g n to k' i
    · exact ⟨k, h, hm⟩
    · simp only [Classical.not_forall, Classical.not_not] at hm
      obtain ⟨k', hlt, h'⟩ := hm
      exact ih k' hlt h'
theorem Mn.step {r i : Nat} (h : Mn g n to (r + 1) i) : ∃ j, j < n ∧ Mn g n to r j := by
  obtain ⟨⟨c, ⟨j, hj, hp, hw⟩, hmin⟩, hno⟩ := h
  have hmj : ∀ k' c', Wk g n to k' j c' → c - g i j ≤ c' := fun k' c' h' => by
    have := hmin _ _ (h'.link hj hp)
    omega
  refine ⟨j, hj, ⟨_, hw, hmj⟩, fun k hk ⟨d, hd, hdm⟩ => hno (k + 1) (by omega) ⟨g i j + d, hd.link hj hp, fun k' c' h' => ?_⟩⟩
  have h1 := hdm _ _ hw
  have h2 := hmin k' c' h'
  omega
theorem Mn.down {i : Nat} (hi : i < n) : ∀ {r : Nat}, Mn g n to r i → ∀ s, s ≤ r → ∃ j, j < n ∧ Mn g n to s j := by
  intro r
  induction r generalizing i with
  | zero =>
    intro h s hs
    obtain rfl : s = 0 := by omega
    exact ⟨i, hi, h⟩
  | succ r ih =>
    intro h s hs
    by_cases e : s = r + 1
    · subst e; exact ⟨i, hi, h⟩
    · obtain ⟨j, hj, h'⟩ := h.step
      exact ih hj h' s (by omega)
theorem Mn.uniq {r s j : Nat} (h : Mn g n to r j) (h' : Mn g n to s j) : r = s := by
  rcases Nat.lt_trichotomy r s with hl | hl | hl
  · exact absurd h.1 (h'.2 r hl)
  · exact hl
  · exact absurd h'.1 (h.2 s hl)
theorem Mn.lt {r i : Nat} (hi : i < n) (h : Mn g n to r i) : r < n := by
  have hd := h.down hi
  have hc : ∃ f : Nat → Nat, ∀ s, s ≤ r → f s < n ∧ Mn g n to s (f s) := by
    refine ⟨fun s => if hs : s ≤ r then Classical.choose (hd s hs) else 0, fun s hs => ?_⟩
    simp only [hs, dite_true]
    exact Classical.choose_spec (hd s hs)
  obtain ⟨f, hf⟩ := hc
  have h1 := distinct_le n ((List.range (r + 1)).map f) (by
    rw [List.nodup_iff_pairwise_ne, List.pairwise_map]
    exact List.Pairwise.imp_of_mem (fun {a b} ha hb hab e => by
      have ha' := List.mem_range.1 ha
      have hb' := List.mem_range.1 hb
      have k1 := (hf a (by omega)).2
      rw [e] at k1
      exact hab (k1.uniq (hf b (by omega)).2)) (List.nodup_iff_pairwise_ne.1 List.nodup_range)) (fun x hx => by
    obtain ⟨s, hs, rfl⟩ := List.mem_map.1 hx
    have := List.mem_range.1 hs
    exact (hf s (by omega)).1)
  simp at h1
  omega
/-- Whatever a way costs, there is one of fewer than n links that costs no more. -/
theorem few_links {i k : Nat} {c : Int} (hi : i < n) (h : Wk g n to k i c) : ∃ r d, r < n ∧ Wk g n to r i d ∧ d ≤ c := by
  obtain ⟨k1, h1⟩ := opt_ex rfl h
  obtain ⟨r, h2⟩ := mn_ex h1
  obtain ⟨d, hd, hm⟩ := h2.1
  exact ⟨r, d, h2.lt hi, hd, hm _ _ h⟩
end
/-- One number of the model's step: the links of row i, the first m of them. -/
def rxN (g : Nat → Nat → Int) (D : Nat → Int) (i : Nat) (x : Int) : Nat → Int
  | 0 => x
  | j + 1 => if 0 < g i j ∧ 0 ≤ D j ∧ (rxN g D i x j < 0 ∨ g i j + D j < rxN g D i x j) then g i j + D j else rxN g D i x j
theorem rxN_facts (g : Nat → Nat → Int) (D : Nat → Int) (i : Nat) (x : Int) : ∀ m, (rxN g D i x m = x ∨ ∃ j, j < m ∧ 0 < g i j ∧ 0 ≤ D j ∧ rxN g D i x m = g i j + D j) ∧ (∀ j, j < m → 0 < g i j → 0 ≤ D j → 0 ≤ rxN g D i x m ∧ rxN g D i x m ≤ g i j + D j) ∧ (0 ≤ x → 0 ≤ rxN g D i x m ∧ rxN g D i x m ≤ x)
  | 0 => ⟨.inl rfl, fun j hj => absurd hj (Nat.not_lt_zero _), fun h => ⟨h, Int.le_refl _⟩⟩
  | m + 1 => by
    obtain ⟨h1, h2, h3⟩ := rxN_facts g D i x m
    by_cases hc : 0 < g i m ∧ 0 ≤ D m ∧ (rxN g D i x m < 0 ∨ g i m + D m < rxN g D i x m)
    · have e : rxN g D i x (m + 1) = g i m + D m := by rw [rxN, if_pos hc]
      rw [e]
      refine ⟨.inr ⟨m, by omega, hc.1, hc.2.1, rfl⟩, fun j hj hp h0 => ?_, fun h => ?_⟩
      · by_cases ej : j = m
        · subst ej; omega
        · have := h2 j (by omega) hp h0; omega
      · have := h3 h; omega
    · have e : rxN g D i x (m + 1) = rxN g D i x m := by rw [rxN, if_neg hc]
      rw [e]
      refine ⟨?_, fun j hj hp h0 => ?_, h3⟩
      · rcases h1 with h1 | ⟨j, hj, h1⟩
        · exact .inl h1
        · exact .inr ⟨j, by omega, h1⟩
      · by_cases ej : j = m
        · subst ej
          have : ¬ (rxN g D i x j < 0 ∨ g i j + D j < rxN g D i x j) := fun h => hc ⟨hp, h0, h⟩
          omega
        · exact h2 j (by omega) hp h0
/-- The model's costs behind k steps. -/
def itD (g : Nat → Nat → Int) (n to : Nat) : Nat → Nat → Int
  | 0, i => if i = to then 0 else -1
  | k + 1, i => rxN g (itD g n to k) i (itD g n to k i) n
structure BfK (g : Nat → Nat → Int) (n to k : Nat) (D : Nat → Int) : Prop where
  none_ : ∀ i, i < n → D i < 0 → D i = -1
  way : ∀ i, i < n → 0 ≤ D i → ∃ m, m ≤ k ∧ Wk g n to m i (D i)
  least : ∀ i, i < n → ∀ m c, m ≤ k → Wk g n to m i c → 0 ≤ D i ∧ D i ≤ c
theorem bfK (g : Nat → Nat → Int) (n to : Nat) : ∀ k, BfK g n to k (itD g n to k)
  | 0 => by
    refine ⟨fun i _ h => ?_, fun i _ h => ?_, fun i _ m c hm h => ?_⟩
    · unfold itD at h ⊢
      split at h
      · omega
      · rename_i hne; simp [hne]
    · unfold itD at h ⊢
      split at h
      · rename_i he; exact ⟨0, Nat.le_refl _, by simp [he, Wk]⟩
      · omega
    · obtain rfl : m = 0 := by omega
      obtain ⟨rfl, rfl⟩ := h
      simp [itD]
  | k + 1 => by
    have ih := bfK g n to k
    refine ⟨fun i hi h => ?_, fun i hi h => ?_, fun i hi m c hm h => ?_⟩
    · obtain ⟨h1, _, _⟩ := rxN_facts g (itD g n to k) i (itD g n to k i) n
      change rxN _ _ _ _ _ < 0 at h
      change rxN _ _ _ _ _ = -1
      rcases h1 with h1 | ⟨j, _, hp, h0, h1⟩
      · rw [h1] at h ⊢; exact ih.none_ i hi h
      · omega
    · obtain ⟨h1, _, _⟩ := rxN_facts g (itD g n to k) i (itD g n to k i) n
      change 0 ≤ rxN _ _ _ _ _ at h
      change ∃ m, m ≤ k + 1 ∧ Wk g n to m i (rxN _ _ _ _ _)
      rcases h1 with h1 | ⟨j, hj, hp, h0, h1⟩
      · rw [h1] at h ⊢
        obtain ⟨m, hm, hw⟩ := ih.way i hi h
        exact ⟨m, by omega, hw⟩
      · rw [h1]
        obtain ⟨m, hm, hw⟩ := ih.way j hj h0
        exact ⟨m + 1, by omega, hw.link hj hp⟩
    · obtain ⟨_, h2, h3⟩ := rxN_facts g (itD g n to k) i (itD g n to k i) n
      change 0 ≤ rxN _ _ _ _ _ ∧ rxN _ _ _ _ _ ≤ c
      cases m with
      | zero =>
        have h4 := ih.least i hi 0 c (Nat.zero_le _) h
        have := h3 h4.1; omega
      | succ m =>
        obtain ⟨j, hj, hp, hw⟩ := h
        have h4 := ih.least j hj m _ (by omega) hw
        have := h2 j hj hp h4.1
        omega
/-- The model's costs are the least ones. -/
theorem itD_is (g : Nat → Nat → Int) (n to : Nat) : IsD g n to (itD g n to n) := by
  have h := bfK g n to n
  refine ⟨h.none_, fun i hi h0 => ?_, fun i hi k c hw => ?_⟩
  · obtain ⟨m, _, hw⟩ := h.way i hi h0
    exact ⟨m, hw⟩
  · obtain ⟨r, d, hr, hw2, hd⟩ := few_links hi hw
    have := h.least i hi r d (by omega) hw2
    omega
/-- What makes a station the next one. -/
def Hit (g : Nat → Nat → Int) (D : Nat → Int) (i j : Nat) : Prop := 0 < g i j ∧ 0 ≤ D j ∧ g i j + D j = D i
instance (g : Nat → Nat → Int) (D : Nat → Int) (i j : Nat) : Decidable (Hit g D i j) := by unfold Hit; exact inferInstance
/-- The next station, if there is one. -/
def nxS (g : Nat → Nat → Int) (D : Nat → Int) (i : Nat) : Nat → Option Nat
  | 0 => none
  | n + 1 => match nxS g D i n with
    | some j => some j
    | none => if Hit g D i n then some n else none
theorem nxS_facts (g : Nat → Nat → Int) (D : Nat → Int) (i : Nat) : ∀ n, (nxS g D i n = none ∧ ∀ j, j < n → ¬ Hit g D i j) ∨ ∃ j, nxS g D i n = some j ∧ j < n ∧ Hit g D i j ∧ ∀ k, k < j → ¬ Hit g D i k
  | 0 => .inl ⟨rfl, fun j hj => absurd hj (Nat.not_lt_zero _)⟩
  | n + 1 => by
    rcases nxS_facts g D i n with ⟨h1, h2⟩ | ⟨j, h1, h2, h3, h4⟩
    · by_cases hh : Hit g D i n
      · exact .inr ⟨n, by rw [nxS, h1]; simp [hh], by omega, hh, h2⟩
      · refine .inl ⟨by rw [nxS, h1]; simp [hh], fun j hj => ?_⟩
        by_cases e : j = n
        · subst e; exact hh
        · exact h2 j (by omega)
    · exact .inr ⟨j, by rw [nxS, h1], by omega, h3, h4⟩
theorem nxS_no {g : Nat → Nat → Int} {D : Nat → Int} {i n : Nat} (h : ∀ j, j < n → ¬ Hit g D i j) : nxS g D i n = none := by
  rcases nxS_facts g D i n with ⟨h1, _⟩ | ⟨j, _, h2, h3, _⟩
  · exact h1
  · exact absurd h3 (h j h2)
theorem nxS_at {g : Nat → Nat → Int} {D : Nat → Int} {i n j : Nat} (hj : j < n) (hh : Hit g D i j) (h : ∀ k, k < j → ¬ Hit g D i k) : nxS g D i n = some j := by
  rcases nxS_facts g D i n with ⟨_, h1⟩ | ⟨k, h1, h2, h3, h4⟩
  · exact absurd hh (h1 j hj)
  · rcases Nat.lt_trichotomy j k with hl | hl | hl
    · exact absurd hh (h4 j hl)
    · rw [h1, hl]
    · exact absurd h3 (h k hl)
theorem nxS_congr {g g' : Nat → Nat → Int} {D D' : Nat → Int} {i n : Nat} (hi : i < n) (hg : ∀ j, j < n → g i j = g' i j) (hD : ∀ j, j < n → D j = D' j) : nxS g D i n = nxS g' D' i n := by
  have e : ∀ j, j < n → (Hit g D i j ↔ Hit g' D' i j) := fun j hj => by unfold Hit; rw [hg j hj, hD j hj, hD i hi]
  rcases nxS_facts g' D' i n with ⟨h1, h2⟩ | ⟨j, h1, h2, h3, h4⟩
  · rw [h1]; exact nxS_no fun j hj hh => h2 j hj ((e j hj).1 hh)
  · rw [h1]; exact nxS_at h2 ((e j h2).2 h3) fun k hk hh => h4 k hk ((e k (by omega)).1 hh)
section
variable {g : Nat → Nat → Int} {n to : Nat} {D : Nat → Int}
/-- There is a next station exactly if there is a path and the stations are different. -/
theorem IsD.next_ex (h : IsD g n to D) (hto : to < n) {i : Nat} (hi : i < n) : nxS g D i n = none ↔ i = to ∨ D i < 0 := by
  constructor
  · intro hn
    by_cases e : i = to
    · exact .inl e
    · refine .inr (Int.not_le.1 fun h0 => ?_)
      obtain ⟨j, hj, h1, h2, h3⟩ := h.met hi h0 e
      rcases nxS_facts g D i n with ⟨_, h4⟩ | ⟨k, h4, _⟩
      · exact h4 j hj ⟨h1, h2, h3⟩
      · rw [hn] at h4; cases h4
  · rintro (rfl | h0)
    · refine nxS_no fun j _ ⟨h1, h2, h3⟩ => ?_
      have := h.self hto
      omega
    · exact nxS_no fun j _ ⟨h1, h2, h3⟩ => by omega
theorem nxS_some {i j : Nat} (h : nxS g D i n = some j) : j < n ∧ Hit g D i j := by
  rcases nxS_facts g D i n with ⟨h1, _⟩ | ⟨k, h1, h2, h3, _⟩
  · rw [h] at h1; cases h1
  · rw [h] at h1
    injection h1 with h1
    subst h1
    exact ⟨h2, h3⟩
end
/-- The route from a station, with fuel. -/
def rtF (g : Nat → Nat → Int) (D : Nat → Int) (n : Nat) : Nat → Nat → List Nat
  | 0, i => [i]
  | f + 1, i => match nxS g D i n with
    | some j => i :: rtF g D n f j
    | none => [i]
/-- A route: it begins and ends where it should, and each station but the last is followed by its next one. -/
structure RtOk (g : Nat → Nat → Int) (D : Nat → Int) (n to i : Nat) (L : List Nat) : Prop where
  pos : 0 < L.length
  first : nl L 0 = i
  last : nl L (L.length - 1) = to
  lt : ∀ k, k < L.length → nl L k < n
  next : ∀ k, k + 1 < L.length → nxS g D (nl L k) n = some (nl L (k + 1))
theorem nl_cons (i : Nat) (L : List Nat) (k : Nat) : nl (i :: L) (k + 1) = nl L k := by simp [nl]
theorem nl_cons0 (i : Nat) (L : List Nat) : nl (i :: L) 0 = i := by simp [nl]
section
variable {g : Nat → Nat → Int} {n to : Nat} {D : Nat → Int}
theorem rt_ok (h : IsD g n to D) (hto : to < n) : ∀ {f i : Nat}, i < n → 0 ≤ D i → (D i).toNat ≤ f → RtOk g D n to i (rtF g D n f i)
  | 0, i, hi, h0, hf => by
    have e := h.zero hi (by omega)
    subst e
    exact ⟨by simp [rtF], nl_cons0 _ _, by simp [rtF, nl], fun k hk => by
      obtain rfl : k = 0 := by simpa [rtF] using hk
      simpa [rtF, nl] using hi, fun k hk => by simp [rtF] at hk⟩
  | f + 1, i, hi, h0, hf => by
    cases hn : nxS g D i n with
    | none =>
      have e : rtF g D n (f + 1) i = [i] := by rw [rtF, hn]
      rw [e]
      rcases (h.next_ex hto hi).1 hn with rfl | h1
      · exact ⟨by simp, nl_cons0 _ _, by simp [nl], fun k hk => by
          obtain rfl : k = 0 := by simpa using hk
          simpa [nl] using hi, fun k hk => by simp at hk⟩
      · omega
    | some j =>
      have e : rtF g D n (f + 1) i = i :: rtF g D n f j := by rw [rtF, hn]
      rw [e]
      obtain ⟨hj, h1, h2, h3⟩ := nxS_some hn
      have ih := rt_ok h hto (f := f) hj h2 (by omega)
      have hp := ih.pos
      refine ⟨by simp, nl_cons0 _ _, ?_, fun k hk => ?_, fun k hk => ?_⟩
      · rw [List.length_cons, Nat.add_sub_cancel, show (rtF g D n f j).length = (rtF g D n f j).length - 1 + 1 by omega, nl_cons]
        exact ih.last
      · cases k with
        | zero => rw [nl_cons0]; exact hi
        | succ k => rw [nl_cons]; exact ih.lt k (by simpa using hk)
      · cases k with
        | zero => rw [nl_cons0, nl_cons, ih.first]; exact hn
        | succ k => rw [nl_cons, nl_cons]; exact ih.next k (by simpa using hk)
variable {i : Nat} {L : List Nat}
theorem RtOk.link (h : RtOk g D n to i L) {k : Nat} (hk : k + 1 < L.length) : 0 < g (nl L k) (nl L (k + 1)) ∧ 0 ≤ D (nl L (k + 1)) ∧ g (nl L k) (nl L (k + 1)) + D (nl L (k + 1)) = D (nl L k) := (nxS_some (h.next k hk)).2
theorem RtOk.falls (h : RtOk g D n to i L) {j : Nat} : ∀ {k : Nat}, j < k → k < L.length → D (nl L k) < D (nl L j)
  | k + 1, hj, hk => by
    have h1 := h.link hk
    by_cases e : j = k
    · subst e; omega
    · have := h.falls (j := j) (k := k) (by omega) (by omega)
      omega
theorem RtOk.differ (h : RtOk g D n to i L) {j k : Nat} (hj : j < k) (hk : k < L.length) : nl L j ≠ nl L k := fun e => by
  have := h.falls hj hk
  rw [e] at this; omega
theorem RtOk.ends (h : RtOk g D n to i L) {k : Nat} (hk : k < L.length) : nl L k = to ↔ k + 1 = L.length := by
  constructor
  · intro e
    rcases Nat.lt_or_ge (k + 1) L.length with hl | hl
    · exact absurd (e.trans h.last.symm) (h.differ (by omega) (by omega))
    · omega
  · intro e
    rw [← h.last, ← e, Nat.add_sub_cancel]
theorem RtOk.len (h : RtOk g D n to i L) : L.length ≤ n := by
  refine distinct_le n L ?_ fun x hx => ?_
  · rw [List.nodup_iff_pairwise_ne, List.pairwise_iff_getElem]
    intro a b ha hb hab e
    refine h.differ hab hb ?_
    simp [nl, ha, hb, e]
  · obtain ⟨a, ha, rfl⟩ := List.getElem_of_mem hx
    have := h.lt a ha
    simpa [nl, ha] using this
/-- A route is the only one: what begins and goes on in the same way is the same. -/
theorem RtOk.same (h : RtOk g D n to i L) {L' : List Nat} (h' : RtOk g D n to i L') : L = L' := by
  have step : ∀ k, k < L.length → k < L'.length → nl L k = nl L' k := by
    intro k
    induction k with
    | zero => intro _ _; rw [h.first, h'.first]
    | succ k ih =>
      intro h1 h2
      have e1 := h.next k h1
      have e2 := h'.next k h2
      rw [ih (by omega) (by omega), e2] at e1
      injection e1 with e1
      exact e1.symm
  have hl : L.length = L'.length := by
    have hp := h.pos
    have hp' := h'.pos
    rcases Nat.lt_trichotomy L.length L'.length with hl | hl | hl
    · have e := step (L.length - 1) (by omega) (by omega)
      rw [h.last] at e
      have := (h'.ends (k := L.length - 1) (by omega)).1 e.symm
      omega
    · exact hl
    · have e := step (L'.length - 1) (by omega) (by omega)
      rw [h'.last] at e
      have := (h.ends (k := L'.length - 1) (by omega)).1 e
      omega
  refine List.ext_getElem hl fun a h1 h2 => ?_
  have := step a h1 h2
  simpa [nl, h1, h2] using this
/-- What the first k links of a route cost. -/
def rtC (g : Nat → Nat → Int) (L : List Nat) : Nat → Int
  | 0 => 0
  | k + 1 => rtC g L k + g (nl L k) (nl L (k + 1))
theorem RtOk.cost (h : RtOk g D n to i L) : ∀ {k : Nat}, k < L.length → rtC g L k = D i - D (nl L k)
  | 0, _ => by rw [h.first, rtC]; omega
  | k + 1, hk => by
    have h1 := h.link hk
    rw [rtC, h.cost (k := k) (by omega)]
    omega
theorem RtOk.total (h : RtOk g D n to i L) (hD : IsD g n to D) (hto : to < n) : rtC g L (L.length - 1) = D i := by
  have hp := h.pos
  rw [h.cost (k := L.length - 1) (by omega), h.last, hD.self hto]; omega
end
/-- A table without a link. -/
def cutG (g : Nat → Nat → Int) (a b : Nat) (i j : Nat) : Int := if i = a ∧ j = b then 0 else g i j
theorem IsD.cut {g : Nat → Nat → Int} {n to a b : Nat} {D D' : Nat → Int} (h : IsD g n to D) (h' : IsD (cutG g a b) n to D') {i : Nat} (hi : i < n) (h0 : 0 ≤ D' i) : 0 ≤ D i ∧ D i ≤ D' i :=
  h.le_of h' (fun i j _ _ hp => by
    unfold cutG at hp ⊢
    split at hp
    · omega
    · rename_i hne; simp [hne]) hi h0
/-- A search that takes stations out of a queue in any order: each reached station either waits with its costs or has offered them to all. At the end none waits: these are the least costs. -/
structure Dk (g : Nat → Nat → Int) (n to : Nat) (D : Nat → Int) (W : Nat → Prop) : Prop where
  self : D to = 0
  none_ : ∀ i, i < n → D i < 0 → D i = -1
  way : ∀ i, i < n → 0 ≤ D i → ∃ k, Wk g n to k i (D i)
  done : ∀ j, j < n → 0 ≤ D j → ¬ W j → ∀ i, i < n → 0 < g i j → 0 ≤ D i ∧ D i ≤ g i j + D j
section
variable {g : Nat → Nat → Int} {n to : Nat} {D : Nat → Int} {W : Nat → Prop}
theorem Dk.is (h : Dk g n to D W) (hto : to < n) (hW : ∀ j, j < n → ¬ W j) : IsD g n to D :=
  isD_fix hto h.self h.none_ h.way fun i j hi hj hp h0 => h.done j hj h0 (hW j hj) i hi hp
theorem Dk.start : Dk g n to (fun i => if i = to then 0 else -1) (fun j => j = to) := by
  refine ⟨by simp, fun i _ h => ?_, fun i _ h => ?_, fun j _ h hw => ?_⟩
  · split at h
    · omega
    · rename_i hne; simp [hne]
  · split at h
    · rename_i he; exact ⟨0, by simp [he, Wk]⟩
    · omega
  · rw [if_neg hw] at h; omega
/-- A station's costs are improved by a link to station j: it waits. -/
theorem Dk.better (h : Dk g n to D W) {i j : Nat} (hj : j < n) (hp : 0 < g i j) (h0 : 0 ≤ D j) (hb : D i < 0 ∨ g i j + D j < D i) (hne : i ≠ to) : Dk g n to (fun x => if x = i then g i j + D j else D x) (fun x => x = i ∨ W x) := by
  refine ⟨by simp [Ne.symm hne, h.self], fun x hx hl => ?_, fun x hx h1 => ?_, fun x hx h1 hw y hy hpy => ?_⟩
  · split at hl
    · omega
    · rename_i hxe; simp only [hxe, if_false]; exact h.none_ x hx hl
  · split at h1
    · rename_i hxe
      subst hxe
      simp only [if_true]
      obtain ⟨k, hk⟩ := h.way j hj h0
      exact ⟨k + 1, hk.link hj hp⟩
    · rename_i hxe; simp only [hxe, if_false]; exact h.way x hx h1
  · have hxe : x ≠ i := fun e => hw (.inl e)
    simp only [hxe, if_false] at h1 ⊢
    have h2 := h.done x hx h1 (fun hW => hw (.inr hW)) y hy hpy
    split
    · rename_i hye; subst hye; omega
    · exact h2
/-- A station that has offered its costs to all need not wait. -/
theorem Dk.offered (h : Dk g n to D W) {j : Nat} (hj : ∀ i, i < n → 0 < g i j → 0 ≤ D j → 0 ≤ D i ∧ D i ≤ g i j + D j) : Dk g n to D (fun x => W x ∧ x ≠ j) :=
  ⟨h.self, h.none_, h.way, fun x hx h1 hw i hi hp => by
    by_cases e : x = j
    · subst e; exact hj i hi hp h1
    · exact h.done x hx h1 (fun hW => hw ⟨hW, e⟩) i hi hp⟩
theorem Dk.mono (h : Dk g n to D W) {W' : Nat → Prop} (hw : ∀ j, j < n → W j → W' j) : Dk g n to D W' := ⟨h.self, h.none_, h.way, fun j hj h0 hn => h.done j hj h0 fun hW => hn (hw j hj hW)⟩
/-- A way begins with costs that are low enough, or one waits whose costs are. -/
theorem Dk.front (h : Dk g n to D W) : ∀ {k i : Nat} {c : Int}, i < n → Wk g n to k i c → (0 ≤ D i ∧ D i ≤ c) ∨ ∃ x, x < n ∧ W x ∧ 0 ≤ D x ∧ D x ≤ c
  | 0, i, c, _, hw => by
    obtain ⟨rfl, rfl⟩ := hw
    have := h.self
    exact .inl ⟨by omega, by omega⟩
  | k + 1, i, c, hi, ⟨j, hj, hp, hw⟩ => by
    rcases h.front hj hw with ⟨h0, h1⟩ | ⟨x, h1, h2, h3, h4⟩
    · by_cases hW : W j
      · exact .inr ⟨j, hj, hW, h0, by omega⟩
      · have := h.done j hj h0 hW i hi hp
        exact .inl ⟨by omega, by omega⟩
    · exact .inr ⟨x, h1, h2, h3, by omega⟩
/-- The costs of a station that waits with the least costs of all that wait are the least ones. -/
theorem Dk.final (h : Dk g n to D W) {j : Nat} (hj : j < n) (hm : ∀ x, x < n → W x → 0 ≤ D x → D j ≤ D x) {k : Nat} {c : Int} (hw : Wk g n to k j c) : D j ≤ c := by
  rcases h.front hj hw with ⟨_, h1⟩ | ⟨x, h1, h2, h3, h4⟩
  · exact h1
  · have := hm x h1 h2 h3
    omega
/-- No link improves least costs. -/
theorem Dk.kept (h : Dk g n to D W) {i j : Nat} (hf : ∀ k c, Wk g n to k i c → D i ≤ c) (hj : j < n) (hp : 0 < g i j) (h0 : 0 ≤ D j) : D i ≤ g i j + D j := by
  obtain ⟨k, hk⟩ := h.way j hj h0
  exact hf _ _ (hk.link hj hp)
end

theorem Wk.most {g : Nat → Nat → Int} {n to : Nat} {M : Int} (hg : ∀ i j, i < n → j < n → g i j ≤ M) : ∀ {k i : Nat} {c : Int}, i < n → Wk g n to k i c → c ≤ k * M
  | 0, _, _, _, h => by have := h.2; omega
  | k + 1, i, c, hi, ⟨j, hj, _, h⟩ => by
    have h1 := h.most hg hj
    have h2 := hg i j hi hj
    have e : ((k + 1 : Nat) : Int) * M = k * M + M := by rw [Int.natCast_succ, Int.add_mul, Int.one_mul]
    omega
/-- C: the costs of settled stations, -1 elsewhere; Q: the paths that wait. Of the links to station x those from station m on are yet to be followed. -/
structure Lz (g : Nat → Nat → Int) (n to : Nat) (C : Nat → Int) (Q : Nat → Int → Prop) (x m : Nat) : Prop where
  none_ : ∀ i, i < n → C i < 0 → C i = -1
  way : ∀ i, i < n → 0 ≤ C i → ∃ k, Wk g n to k i (C i)
  final : ∀ i, i < n → 0 ≤ C i → ∀ k c, Wk g n to k i c → C i ≤ c
  self : C to < 0 → Q to 0
  waits : ∀ i c, Q i c → i < n ∧ ∃ k, Wk g n to k i c
  offered : ∀ j, j < n → 0 ≤ C j → ∀ i, i < n → 0 < g i j → (j = x → i < m) → C i < 0 → Q i (g i j + C j)
section
variable {g : Nat → Nat → Int} {n to x m : Nat} {C : Nat → Int} {Q Q' : Nat → Int → Prop}
theorem Lz.start (hto : to < n) : Lz g n to (fun _ => -1) (fun i c => i = to ∧ c = 0) n 0 :=
  ⟨fun _ _ _ => rfl, fun _ _ h => absurd h (by omega), fun _ _ h => absurd h (by omega), fun _ => ⟨rfl, rfl⟩, fun i c ⟨h1, h2⟩ => by subst h1 h2; exact ⟨hto, 0, rfl, rfl⟩, fun _ _ h => absurd h (by omega)⟩
theorem Lz.congr (h : Lz g n to C Q x m) {C' : Nat → Int} (hto : to < n) (hc : ∀ i, i < n → C' i = C i) (hq : ∀ i c, Q' i c ↔ Q i c) : Lz g n to C' Q' x m :=
  ⟨fun i hi h0 => by rw [hc i hi] at h0 ⊢; exact h.none_ i hi h0, fun i hi h0 => by rw [hc i hi] at h0 ⊢; exact h.way i hi h0, fun i hi h0 k c hw => by rw [hc i hi] at h0 ⊢; exact h.final i hi h0 k c hw,
    fun h0 => by rw [hc to hto] at h0; exact (hq _ _).2 (h.self h0), fun i c h0 => h.waits i c ((hq _ _).1 h0), fun j hj h0 i hi hp hx h1 => by
      rw [hc j hj] at h0 ⊢
      rw [hc i hi] at h1
      exact (hq _ _).2 (h.offered j hj h0 i hi hp hx h1)⟩
/-- A way from an unsettled station is no cheaper than a path that waits. -/
theorem Lz.front (h : Lz g n to C Q n 0) : ∀ {k i : Nat} {c : Int}, i < n → C i < 0 → Wk g n to k i c → ∃ y e, Q y e ∧ e ≤ c
  | 0, i, c, _, hc, hw => by
    obtain ⟨rfl, rfl⟩ := hw
    exact ⟨_, 0, h.self hc, Int.le_refl _⟩
  | k + 1, i, c, hi, hc, ⟨j, hj, hp, hw⟩ => by
    by_cases h0 : 0 ≤ C j
    · have h1 := h.final j hj h0 k _ hw
      exact ⟨i, _, h.offered j hj h0 i hi hp (fun e => by omega) hc, by omega⟩
    · obtain ⟨y, e, h1, h2⟩ := h.front hj (by omega) hw
      exact ⟨y, e, h1, by omega⟩
theorem Lz.is (h : Lz g n to C Q n 0) (hq : ∀ i c, ¬ Q i c) : IsD g n to C :=
  ⟨h.none_, h.way, fun i hi k c hw => by
    by_cases h0 : 0 ≤ C i
    · exact ⟨h0, h.final i hi h0 k c hw⟩
    · obtain ⟨y, e, h1, _⟩ := h.front hi (by omega) hw
      exact absurd h1 (hq y e)⟩
theorem Lz.done (h : Lz g n to C Q x n) : Lz g n to C Q n 0 := ⟨h.none_, h.way, h.final, h.self, h.waits, fun j hj h0 i hi hp _ h1 => h.offered j hj h0 i hi hp (fun _ => hi) h1⟩
/-- A path from a settled station is dropped. -/
theorem Lz.skip (h : Lz g n to C Q n 0) {y : Nat} (hy : 0 ≤ C y) (h1 : ∀ i c, Q' i c → Q i c) (h2 : ∀ i c, Q i c → Q' i c ∨ i = y) : Lz g n to C Q' n 0 :=
  ⟨h.none_, h.way, h.final, fun h0 => (h2 _ _ (h.self h0)).resolve_right fun e => by subst e; omega, fun i c h0 => h.waits i c (h1 i c h0), fun j hj h0 i hi hp hx hc => (h2 _ _ (h.offered j hj h0 i hi hp hx hc)).resolve_right fun e => by subst e; omega⟩
/-- A station is settled by a cheapest path. -/
theorem Lz.settle (h : Lz g n to C Q n 0) {y : Nat} {d : Int} (hy : C y < 0) (hq : Q y d) (hmin : ∀ i c, Q i c → d ≤ c) (h1 : ∀ i c, Q' i c → Q i c) (h2 : ∀ i c, Q i c → Q' i c ∨ i = y) :
    0 ≤ d ∧ y < n ∧ Lz g n to (fun i => if i = y then d else C i) Q' y 0 := by
  obtain ⟨hyn, k0, hk0⟩ := h.waits y d hq
  have hd := hk0.nonneg
  refine ⟨hd, hyn, fun i hi h0 => ?_, fun i hi h0 => ?_, fun i hi h0 k c hw => ?_, fun h0 => ?_, fun i c h0 => h.waits i c (h1 i c h0), fun j hj h0 i hi hp hx hc => ?_⟩
  · split at h0
    · omega
    · rename_i hne; simp only [hne, if_false]; exact h.none_ i hi h0
  · split at h0
    · rename_i he; subst he; simp only [if_true]; exact ⟨k0, hk0⟩
    · rename_i hne; simp only [hne, if_false]; exact h.way i hi h0
  · split at h0
    · rename_i he
      subst he
      simp only [if_true]
      obtain ⟨z, e, h3, h4⟩ := h.front hi hy hw
      have := hmin z e h3
      omega
    · rename_i hne; simp only [hne, if_false]; exact h.final i hi h0 k c hw
  · split at h0
    · omega
    · rename_i hne; exact (h2 _ _ (h.self h0)).resolve_right hne
  · have hjy : j ≠ y := fun e => by have := hx e; omega
    have hiy : i ≠ y := fun e => by subst e; simp only [if_true] at hc; omega
    simp only [hjy, if_false] at h0 ⊢
    simp only [hiy, if_false] at hc
    exact (h2 _ _ (h.offered j hj h0 i hi hp (fun e => by omega) hc)).resolve_right hiy
/-- One link more is followed. -/
theorem Lz.offer (h : Lz g n to C Q x m) (hx : x < n) (hm : m < n) (hc : 0 ≤ C x) (h1 : ∀ i c, Q i c → Q' i c) (h2 : ∀ i c, Q' i c → Q i c ∨ (0 < g m x ∧ i = m ∧ c = g m x + C x)) (h3 : 0 < g m x → Q' m (g m x + C x)) : Lz g n to C Q' x (m + 1) :=
  ⟨h.none_, h.way, h.final, fun h0 => h1 _ _ (h.self h0), fun i c h0 => by
    rcases h2 i c h0 with h4 | ⟨hp, rfl, rfl⟩
    · exact h.waits i c h4
    · obtain ⟨k, hk⟩ := h.way x hx hc
      exact ⟨hm, k + 1, hk.link hx hp⟩, fun j hj h0 i hi hp hxm hci => by
    by_cases e : j = x ∧ i = m
    · obtain ⟨rfl, rfl⟩ := e
      exact h3 hp
    · exact h1 _ _ (h.offered j hj h0 i hi hp (fun ej => by have := hxm ej; have : i ≠ m := fun ei => e ⟨ej, ei⟩; omega) hci)⟩
theorem Lz.bound (h : Lz g n to C Q x m) {M : Int} (hg : ∀ i j, i < n → j < n → g i j ≤ M) (hM : 0 ≤ M) {i : Nat} (hi : i < n) (h0 : 0 ≤ C i) : C i ≤ n * M := by
  obtain ⟨k, hk⟩ := h.way i hi h0
  obtain ⟨r, d, hr, hw, hd⟩ := few_links hi hk
  have h1 := h.final i hi h0 r d hw
  have h2 := hw.most hg hi
  have h3 : (r : Int) * M ≤ n * M := Int.mul_le_mul_of_nonneg_right (by omega) hM
  omega
end
/-- How many of the first n numbers are below 0. -/
def unN (C : Nat → Int) : Nat → Nat
  | 0 => 0
  | n + 1 => unN C n + if C n < 0 then 1 else 0
theorem unN_congr {C C' : Nat → Int} : ∀ {n : Nat}, (∀ i, i < n → C i = C' i) → unN C n = unN C' n
  | 0, _ => rfl
  | n + 1, h => by rw [unN, unN, unN_congr fun i hi => h i (by omega), h n (by omega)]
theorem unN_le (C : Nat → Int) : ∀ n, unN C n ≤ n
  | 0 => Nat.le_refl _
  | n + 1 => by
    have := unN_le C n
    rw [unN]
    split <;> omega
theorem unN_set {C : Nat → Int} {y : Nat} {d : Int} (hd : 0 ≤ d) (hy : C y < 0) : ∀ {n : Nat}, y < n → unN (fun i => if i = y then d else C i) n + 1 = unN C n
  | n + 1, h => by
    by_cases e : n = y
    · subst e
      have h1 : unN (fun i => if i = n then d else C i) n = unN C n := unN_congr fun i hi => by rw [if_neg (by omega)]
      rw [unN, unN, h1]
      simp only [if_true, hy]
      rw [if_neg (by omega)]
    · have ih := unN_set (n := n) hd hy (by omega)
      rw [unN, unN]
      simp only [e, if_false]
      omega
end Go.Proofs.Ytnmhiagnmfpipaa
