/-
  Schedules, more mathematics: sets of stations as numbers, the depth-first search, groups. No condition; plain lemmas.
-/
import Derived.Test.YtnmhiagnmfpipaaSltMath
namespace Go.Proofs.Ytnmhiagnmfpipaa
open Go.RowKit

/-- The number whose binary digits are the first k values of a function. -/
def stN (f : Nat → Bool) : Nat → Nat
  | 0 => 0
  | k + 1 => if f k then stN f k ||| 2 ^ k else stN f k
theorem stN_lt (f : Nat → Bool) : ∀ k, stN f k < 2 ^ k
  | 0 => by simp [stN]
  | k + 1 => by
    have h := stN_lt f k
    have h2 : 2 ^ k < 2 ^ (k + 1) := Nat.pow_lt_pow_right (by omega) (by omega)
    rw [stN]
    split
    · exact Nat.or_lt_two_pow (Nat.lt_trans h h2) h2
    · exact Nat.lt_trans h h2
theorem stN_bit (f : Nat → Bool) (j : Nat) : ∀ k, (stN f k).testBit j = (decide (j < k) && f j)
  | 0 => by simp [stN]
  | k + 1 => by
    have h := stN_bit f j k
    rw [stN]
    by_cases e : j = k
    · subst e
      cases hf : f j
      · rw [if_neg (by simp), h, hf]; simp
      · rw [if_pos rfl, Nat.testBit_or, Nat.testBit_two_pow_self]; simp
    · have e2 : (decide (j < k + 1)) = decide (j < k) := by rw [decide_eq_decide]; omega
      rw [e2]
      split
      · rw [Nat.testBit_or, h, Nat.testBit_two_pow_of_ne (fun h => e h.symm), Bool.or_false]
      · exact h
theorem stN_lt10 (f : Nat → Bool) {k : Nat} (h : k ≤ 10) : stN f k < 1024 := Nat.lt_of_lt_of_le (stN_lt f k) (Nat.pow_le_pow_right (n := 2) (by omega) h)
theorem stN_congr {f f' : Nat → Bool} : ∀ {k : Nat}, (∀ i, i < k → f i = f' i) → stN f k = stN f' k
  | 0, _ => rfl
  | k + 1, h => by rw [stN, stN, stN_congr (k := k) fun i hi => h i (by omega), h k (by omega)]
theorem zero_bits {x : Nat} : x = 0 ↔ ∀ j, x.testBit j = false :=
  ⟨fun h j => by rw [h, Nat.zero_testBit], fun h => Nat.eq_of_testBit_eq fun j => by rw [h j, Nat.zero_testBit]⟩
/-- The stations of a slot. -/
def tkN (L : List Nat) (c : Nat) : Nat := stN (fun j => decide (nl L j = c)) L.length
theorem tkN_nil (c : Nat) : tkN [] c = 0 := rfl
theorem tkN_lt {L : List Nat} {c : Nat} (h : L.length ≤ 10) : tkN L c < 1024 := stN_lt10 _ h
theorem tkN_bit (L : List Nat) (c j : Nat) : (tkN L c).testBit j = (decide (j < L.length) && decide (nl L j = c)) := stN_bit _ _ _
theorem tkN_app (L : List Nat) (c : Nat) : tkN (L ++ [c]) c = tkN L c ||| 2 ^ L.length := by
  refine Nat.eq_of_testBit_eq fun j => ?_
  rw [tkN_bit, Nat.testBit_or, tkN_bit, List.length_append, List.length_singleton]
  by_cases e : j = L.length
  · subst e
    rw [nl_last, Nat.testBit_two_pow_self]; simp
  · rw [Nat.testBit_two_pow_of_ne (fun h => e h.symm)]
    by_cases h : j < L.length
    · rw [nl_app h]; simp [h, Nat.lt_succ_of_lt h]
    · simp [h, show ¬ j < L.length + 1 by omega]
theorem tkN_other {L : List Nat} {c d : Nat} (h : d ≠ c) : tkN (L ++ [c]) d = tkN L d := by
  refine Nat.eq_of_testBit_eq fun j => ?_
  rw [tkN_bit, tkN_bit, List.length_append, List.length_singleton]
  by_cases e : j = L.length
  · subst e
    rw [nl_last]; simp [Ne.symm h]
  · by_cases h : j < L.length
    · rw [nl_app h]; simp [h, Nat.lt_succ_of_lt h]
    · simp [h, show ¬ j < L.length + 1 by omega]
theorem tkN_snoc (L : List Nat) (c d : Nat) : tkN (L ++ [c]) d = if d = c then tkN L c ||| 2 ^ L.length else tkN L d := by
  split
  · next h => subst h; exact tkN_app L d
  · next h => exact tkN_other h
/-- Whether a slot meets the conflicts of a station. -/
theorem meets_is {g : Nat → Nat → Bool} {L : List Nat} {i c n : Nat} (hn : L.length ≤ n) : (tkN L c &&& stN (g i) n = 0) ↔ cfFree g L i c L.length = true := by
  rw [zero_bits, cfFree_iff]
  constructor
  · intro h j hj hg e
    have := h j
    rw [Nat.testBit_and, tkN_bit, stN_bit, hg] at this
    simp [hj, e, show j < n by omega] at this
  · intro h j
    rw [Nat.testBit_and, tkN_bit, stN_bit]
    by_cases hj : j < L.length
    · cases hg : g i j
      · simp
      · simp [h j hj hg]
    · simp [hj]
/-- The search. -/
def lpF {σ : Type} (f : Nat → σ → σ) : Nat → σ → σ
  | 0, s => s
  | k + 1, s => f k (lpF f k s)
def exF (g : Nat → Nat → Bool) (ex : List Nat → Nat → Nat × List Nat → Nat × List Nat) (L : List Nat) (u c : Nat) (st : Nat × List Nat) : Nat × List Nat :=
  if cfFree g L L.length c L.length then ex (L ++ [c]) (max u (c + 1)) st else st
def exS (g : Nat → Nat → Bool) : Nat → List Nat → Nat → Nat × List Nat → Nat × List Nat
  | 0, L, u, st => if u < st.1 then (u, L) else st
  | r + 1, L, u, st => if u < st.1 then lpF (exF g (exS g r) L u) (u + 1) st else st
def Rg (t : List Nat) : Prop := ∀ k, k < t.length → nl t k ≤ topN t k
def Lx (s t : List Nat) : Prop := s = t ∨ ∃ k, k < t.length ∧ s.take k = t.take k ∧ nl s k < nl t k
def ExP (g : Nat → Nat → Bool) (n : Nat) (L t : List Nat) : Prop := Proper g t ∧ Rg t ∧ t.length = n ∧ t.take L.length = L
def Res (n : Nat) (P : List Nat → Prop) (a b : Nat × List Nat) : Prop :=
  (b = a ∧ ∀ t, P t → a.1 ≤ topN t n) ∨ (b.1 < a.1 ∧ P b.2 ∧ topN b.2 n = b.1 ∧ ∀ t, P t → b.1 ≤ topN t n ∧ (topN t n = b.1 → Lx b.2 t))
theorem Res.congr {n : Nat} {P Q : List Nat → Prop} {a b : Nat × List Nat} (h : Res n P a b) (hpq : ∀ t, P t ↔ Q t) : Res n Q a b := by
  rcases h with ⟨h1, h2⟩ | ⟨h1, h2, h3, h4⟩
  · exact .inl ⟨h1, fun t ht => h2 t ((hpq t).2 ht)⟩
  · exact .inr ⟨h1, (hpq _).1 h2, h3, fun t ht => h4 t ((hpq t).2 ht)⟩
theorem Res.comp {n : Nat} {P Q : List Nat → Prop} {a b c : Nat × List Nat} (h : Res n P a b) (h' : Res n Q b c) (hpq : ∀ s t, P s → Q t → Lx s t) : Res n (fun t => P t ∨ Q t) a c := by
  rcases h with ⟨rfl, h2⟩ | ⟨h1, h2, h3, h4⟩
  · rcases h' with ⟨rfl, k2⟩ | ⟨k1, k2, k3, k4⟩
    · exact .inl ⟨rfl, fun t ht => ht.elim (h2 t) (k2 t)⟩
    · refine .inr ⟨k1, .inr k2, k3, fun t ht => ht.elim (fun hp => ?_) (k4 t)⟩
      have := h2 t hp
      exact ⟨by omega, fun e => by omega⟩
  · rcases h' with ⟨rfl, k2⟩ | ⟨k1, k2, k3, k4⟩
    · exact .inr ⟨h1, .inl h2, h3, fun t ht => ht.elim (h4 t) fun hq => ⟨k2 t hq, fun _ => hpq _ _ h2 hq⟩⟩
    · refine .inr ⟨by omega, .inr k2, k3, fun t ht => ht.elim (fun hp => ?_) (k4 t)⟩
      have := (h4 t hp).1
      exact ⟨by omega, fun e => by omega⟩
theorem topN_mono {t : List Nat} {a : Nat} : ∀ {b : Nat}, a ≤ b → topN t a ≤ topN t b
  | 0, h => by rw [Nat.le_zero.1 h]; exact Nat.le_refl _
  | b + 1, h => by
    by_cases e : a = b + 1
    · subst e; exact Nat.le_refl _
    · have := topN_mono (t := t) (a := a) (b := b) (by omega)
      rw [topN]; omega
theorem topN_congr {s t : List Nat} : ∀ {n : Nat}, (∀ i, i < n → nl s i = nl t i) → topN s n = topN t n
  | 0, _ => rfl
  | n + 1, h => by rw [topN, topN, topN_congr (n := n) fun i hi => h i (by omega), h n (by omega)]
theorem nl_of_take {s t : List Nat} {k i : Nat} (h : s.take k = t.take k) (hi : i < k) : nl s i = nl t i := by
  rw [← nl_take (s := s) hi, h, nl_take hi]
theorem topN_take {L t : List Nat} (h : t.take L.length = L) : topN t L.length = topN L L.length :=
  topN_congr fun i hi => by rw [← nl_take (s := t) hi, h]
theorem take_more {t L : List Nat} {c : Nat} (h : t.take L.length = L) (hl : L.length < t.length) (e : nl t L.length = c) : t.take (L ++ [c]).length = L ++ [c] := by
  rw [List.length_append, List.length_singleton, take_next h hl, e]
theorem take_less {t L : List Nat} {c : Nat} (h : t.take (L ++ [c]).length = L ++ [c]) : t.take L.length = L ∧ nl t L.length = c := by
  constructor
  · have := congrArg (List.take L.length) h
    rw [List.take_take, List.length_append, List.length_singleton, show min L.length (L.length + 1) = L.length by omega, List.take_left] at this
    exact this
  · have := nl_take (s := t) (j := L.length) (k := (L ++ [c]).length) (by simp)
    rw [h, nl_last] at this
    exact this.symm
theorem rg_snoc {L : List Nat} {c : Nat} (h : Rg L) (hc : c ≤ topN L L.length) : Rg (L ++ [c]) := fun k hk => by
  rw [List.length_append, List.length_singleton] at hk
  by_cases e : k = L.length
  · subst e
    rw [nl_last, topN_congr (t := L) fun i hi => nl_app hi]; exact hc
  · rw [nl_app (by omega), topN_congr (t := L) fun i hi => nl_app (by omega)]
    exact h k (by omega)
theorem top_snoc (L : List Nat) (c : Nat) : topN (L ++ [c]) (L ++ [c]).length = max (topN L L.length) (c + 1) := by
  rw [List.length_append, List.length_singleton, topN, nl_last, topN_congr (t := L) fun i hi => nl_app hi]
/-- What the search finds among the lists that begin with L. -/
theorem exS_res {g : Nat → Nat → Bool} {n : Nat} : ∀ {r : Nat} {L : List Nat} {u : Nat} (st : Nat × List Nat), Proper g L → Rg L → topN L L.length = u → L.length + r = n → Res n (ExP g n L) st (exS g r L u st)
  | 0, L, u, st, hp, hr, hu, hl => by
    obtain rfl : L.length = n := by omega
    have hone : ∀ t, ExP g L.length L t → t = L := fun t ht => by rw [← ht.2.2.2, ← ht.2.2.1, List.take_length]
    rw [exS]
    split
    · next h =>
      exact .inr ⟨h, ⟨hp, hr, rfl, List.take_length⟩, hu, fun t ht => by rw [hone t ht]; exact ⟨Nat.le_of_eq hu.symm, fun _ => .inl rfl⟩⟩
    · next h => exact .inl ⟨rfl, fun t ht => by rw [hone t ht, hu]; omega⟩
  | r + 1, L, u, st, hp, hr, hu, hl => by
    have hlow : ∀ t, ExP g n L t → u ≤ topN t n := fun t ht => by
      rw [← hu, ← topN_take ht.2.2.2]; exact topN_mono (by omega)
    rw [exS]
    split
    · next h =>
      have key : ∀ k, k ≤ u + 1 → Res n (fun t => ExP g n L t ∧ nl t L.length < k) st (lpF (exF g (exS g r) L u) k st) := fun k => by
        induction k with
        | zero => intro _; exact .inl ⟨rfl, fun t ht => absurd ht.2 (Nat.not_lt_zero _)⟩
        | succ k ih =>
          intro hk
          have h1 := ih (by omega)
          have h2 : Res n (fun t => ExP g n L t ∧ nl t L.length = k) (lpF (exF g (exS g r) L u) k st) (lpF (exF g (exS g r) L u) (k + 1) st) := by
            rw [lpF]
            generalize lpF (exF g (exS g r) L u) k st = st1
            rw [exF]
            split
            · next hf =>
              have := exS_res (n := n) (r := r) (L := L ++ [k]) (u := max u (k + 1)) st1 (proper_snoc hp hf) (rg_snoc hr (by omega)) (by rw [top_snoc, hu]) (by rw [List.length_append, List.length_singleton]; omega)
              refine this.congr fun t => ⟨fun ht => ?_, fun ht => ?_⟩
              · obtain ⟨a, b, c, d⟩ := ht
                exact ⟨⟨a, b, c, (take_less d).1⟩, (take_less d).2⟩
              · obtain ⟨⟨a, b, c, d⟩, e⟩ := ht
                exact ⟨a, b, c, take_more d (by omega) e⟩
            · next hf =>
              refine .inl ⟨rfl, fun t ht => ?_⟩
              obtain ⟨⟨a, b, c, d⟩, e⟩ := ht
              have := proper_free a (k := L.length) (by omega)
              rw [d, e] at this
              exact absurd this hf
          refine (h1.comp h2 fun s t hs ht => .inr ⟨L.length, by have := ht.1.2.2.1; omega, by rw [hs.1.2.2.2, ht.1.2.2.2], by have := hs.2; have := ht.2; omega⟩).congr fun t => ⟨fun ht => ?_, fun ht => ?_⟩
          · rcases ht with ⟨a, b⟩ | ⟨a, b⟩
            · exact ⟨a, by omega⟩
            · exact ⟨a, by omega⟩
          · by_cases e : nl t L.length = k
            · exact .inr ⟨ht.1, e⟩
            · exact .inl ⟨ht.1, by have := ht.2; omega⟩
      refine (key (u + 1) (Nat.le_refl _)).congr fun t => ⟨fun ht => ht.1, fun ht => ⟨ht, ?_⟩⟩
      have h3 := ht.2.1 L.length (by have := ht.2.2.1; omega)
      rw [topN_take ht.2.2.2, hu] at h3
      omega
    · next h => exact .inl ⟨rfl, fun t ht => by have := hlow t ht; omega⟩
/-- The lexicographic order is antisymmetric. -/
theorem lx_anti {s t : List Nat} (h : Lx s t) (h' : Lx t s) : s = t := by
  rcases h with h | ⟨k, k1, k2, k3⟩
  · exact h
  · rcases h' with h' | ⟨m, m1, m2, m3⟩
    · exact h'.symm
    · rcases Nat.lt_trichotomy k m with e | e | e
      · have := nl_of_take m2 e; omega
      · subst e; omega
      · have := nl_of_take k2 e; omega
/-- Two slots exchanged. -/
def sw2 (u c x : Nat) : Nat := if x = u then c else if x = c then u else x
theorem sw2_inj {u c x y : Nat} (h : sw2 u c x = sw2 u c y) : x = y := by
  unfold sw2 at h
  by_cases h1 : x = u <;> by_cases h2 : x = c <;> by_cases h3 : y = u <;> by_cases h4 : y = c <;> simp_all
theorem nl_map {f : Nat → Nat} {s : List Nat} {i : Nat} (h : i < s.length) : nl (s.map f) i = f (nl s i) := by
  unfold nl; simp [h]
theorem proper_map {g : Nat → Nat → Bool} {s : List Nat} {f : Nat → Nat} (h : Proper g s) (hf : ∀ x y, f x = f y → x = y) : Proper g (s.map f) := fun i hi j hj hg => by
  rw [List.length_map] at hi
  rw [nl_map hi, nl_map (by omega)]
  exact fun e => h i hi j hj hg (hf _ _ e)
/-- The first of the best schedules opens its slots in order. -/
theorem bs_rg {g : Nat → Nat → Bool} {n : Nat} {s : List Nat} (h : bs g n = some s) : Rg s := by
  obtain ⟨s', M, e, hs, _, hp, hb, hl, _⟩ := bs_facts g n
  rw [h] at e
  obtain rfl := Option.some.inj e
  intro k hk
  rcases Nat.lt_or_ge (topN s k) (nl s k) with hlt | hge
  · exfalso
    have ht : Proper g (s.map (sw2 (topN s k) (nl s k))) := proper_map hp fun _ _ => sw2_inj
    have hbt : Below' M (s.map (sw2 (topN s k) (nl s k))) := fun i hi => by
      rw [List.length_map] at hi
      rw [nl_map hi]
      have h1 := hb i hi
      have h2 := hb k hk
      unfold sw2
      split
      · exact h2
      · split
        · omega
        · exact h1
    have hat : nl (s.map (sw2 (topN s k) (nl s k))) k = topN s k := by
      rw [nl_map hk]; unfold sw2
      rw [if_neg (by omega), if_pos rfl]
    have hbef : ∀ i, i < k → nl (s.map (sw2 (topN s k) (nl s k))) i = nl s i := fun i hi => by
      have := topN_ge (s := s) hi
      rw [nl_map (by omega)]; unfold sw2
      rw [if_neg (by omega), if_neg (by omega)]
    rcases sx_least ht hbt hs (proper_nil g) (fun i hi => absurd hi (Nat.not_lt_zero _)) rfl (by simpa using hl) with h1 | ⟨m, _, m2, m3, m4⟩
    · rw [← h1] at hat; omega
    · rcases Nat.lt_trichotomy m k with e | e | e
      · rw [hbef m e] at m4; omega
      · subst e; rw [hat] at m4; omega
      · have := nl_of_take m3 e
        rw [hat] at this; omega
  · exact hge
/-- The search finds the best schedule. -/
theorem exS_bs {g : Nat → Nat → Bool} {n : Nat} {s : List Nat} (h : bs g n = some s) : (exS g n [] 0 (n + 1, [])).2 = s := by
  have hrg := bs_rg h
  obtain ⟨s', M, e, hs, hM, hp, hb, hl, hmin⟩ := bs_facts g n
  rw [h] at e
  obtain rfl := Option.some.inj e
  have hPs : ExP g n [] s := ⟨hp, hrg, hl, rfl⟩
  have h1 : topN s n ≤ M := topN_le fun i hi => hb i (by omega)
  rcases exS_res (n := n) (n + 1, ([] : List Nat)) (proper_nil g) (r := n) (L := []) (u := 0) (fun k hk => absurd hk (Nat.not_lt_zero _)) rfl (by simp) with ⟨_, h2⟩ | ⟨h2, h3, h4, h5⟩
  · have := h2 s hPs
    simp only at this
    omega
  · generalize exS g n [] 0 (n + 1, []) = st at *
    have h6 : M ≤ st.1 := hmin st.2 h3.1 h3.2.2.1 st.1 fun i hi => by
      rw [← h4]; exact topN_ge (by rw [h3.2.2.1] at hi; exact hi)
    have h7 := h5 s hPs
    have h8 : Lx st.2 s := h7.2 (by omega)
    have hbt : Below' M st.2 := fun i hi => by
      have := topN_ge (s := st.2) (n := n) (i := i) (by rw [h3.2.2.1] at hi; exact hi)
      omega
    refine lx_anti h8 ?_
    rcases sx_least h3.1 hbt hs (proper_nil g) (fun i hi => absurd hi (Nat.not_lt_zero _)) rfl (by simpa using h3.2.2.1) with h9 | ⟨m, _, m2, m3, m4⟩
    · exact .inl h9
    · exact .inr ⟨m, m2, m3, m4⟩
/-- The best schedule of a part needs no more slots. -/
theorem proper_congr {g g' : Nat → Nat → Bool} {s : List Nat} (h : Proper g s) (e : ∀ i j, i < s.length → j < i → g' i j = g i j) : Proper g' s := fun i hi j hj hg => h i hi j hj (by rw [← e i j hi hj]; exact hg)
theorem bs_part {g g' : Nat → Nat → Bool} {n k : Nat} {s u : List Nat} (h : bs g n = some s) (hu : bs g' k = some u) (hk : k ≤ n) (e : ∀ i j, i < k → j < i → g' i j = g i j) : topN u k ≤ topN s n := by
  obtain ⟨s', M, e1, _, _, hp, hb, hl, _⟩ := bs_facts g n
  rw [h] at e1
  obtain rfl := Option.some.inj e1
  obtain ⟨u', M', e2, _, _, _, hb', hl', hmin'⟩ := bs_facts g' k
  rw [hu] at e2
  obtain rfl := Option.some.inj e2
  have h1 : topN u k ≤ M' := topN_le fun i hi => hb' i (by omega)
  have h2 : (s.take k).length = k := by rw [List.length_take]; omega
  refine Nat.le_trans h1 (hmin' (s.take k) (proper_congr (proper_take hp k) fun i j hi hj => e i j (by omega) hj) h2 _ fun i hi => ?_)
  rw [h2] at hi
  rw [nl_take (by omega)]
  exact topN_ge (by omega)
/-- Groups as functions. -/
def okP (g : Nat → Nat → Bool) (P : Nat → Bool) (n : Nat) : Prop := ∀ i, i < n → P i = true → ∀ j, j < i → P j = true → g i j = true
def cnP (P : Nat → Bool) : Nat → Nat
  | 0 => 0
  | n + 1 => cnP P n + (P n).toNat
theorem cnP_congr {P Q : Nat → Bool} : ∀ {n : Nat}, (∀ i, i < n → P i = Q i) → cnP P n = cnP Q n
  | 0, _ => rfl
  | n + 1, h => by rw [cnP, cnP, cnP_congr (n := n) fun i hi => h i (by omega), h n (by omega)]
theorem cnP_le (P : Nat → Bool) : ∀ n, cnP P n ≤ n
  | 0 => Nat.le_refl _
  | n + 1 => by have := cnP_le P n; have : (P n).toNat ≤ 1 := by cases P n <;> decide
                rw [cnP]; omega
theorem cnP_none {P : Nat → Bool} : ∀ {n : Nat}, (∀ i, i < n → P i = false) → cnP P n = 0
  | 0, _ => rfl
  | n + 1, h => by rw [cnP, cnP_none (n := n) fun i hi => h i (by omega), h n (by omega)]; rfl
theorem cnP_all {P : Nat → Bool} : ∀ {n : Nat}, (∀ i, i < n → P i = true) → cnP P n = n
  | 0, _ => rfl
  | n + 1, h => by rw [cnP, cnP_all (n := n) fun i hi => h i (by omega), h n (by omega)]; rfl
theorem cnP_put {P Q : Nat → Bool} {i : Nat} (h0 : P i = false) (h1 : Q i = true) (h2 : ∀ j, j ≠ i → Q j = P j) : ∀ {n : Nat}, i < n → cnP Q n = cnP P n + 1
  | n + 1, h => by
    by_cases e : i = n
    · subst e
      rw [cnP, cnP, cnP_congr (Q := P) fun j hj => h2 j (by omega), h0, h1]; rfl
    · rw [cnP, cnP, cnP_put h0 h1 h2 (n := n) (by omega), h2 n (by omega)]; omega
def SubP (P S : Nat → Bool) (n : Nat) : Prop := ∀ i, i < n → P i = true → S i = true
/-- m is the size of the greatest group within S. -/
def IsGr (g : Nat → Nat → Bool) (n : Nat) (S : Nat → Bool) (m : Nat) : Prop := (∃ P, SubP P S n ∧ okP g P n ∧ cnP P n = m) ∧ ∀ P, SubP P S n → okP g P n → cnP P n ≤ m
theorem IsGr.unique {g : Nat → Nat → Bool} {n m m' : Nat} {S : Nat → Bool} (h : IsGr g n S m) (h' : IsGr g n S m') : m = m' := by
  obtain ⟨⟨P, a, b, rfl⟩, c⟩ := h
  obtain ⟨⟨Q, a', b', rfl⟩, c'⟩ := h'
  exact Nat.le_antisymm (c' P a b) (c Q a' b')
theorem IsGr.congr {g : Nat → Nat → Bool} {n m : Nat} {S S' : Nat → Bool} (h : IsGr g n S m) (e : ∀ i, i < n → S i = S' i) : IsGr g n S' m := by
  obtain ⟨⟨P, a, b, c⟩, d⟩ := h
  exact ⟨⟨P, fun i hi hp => by rw [← e i hi]; exact a i hi hp, b, c⟩, fun P hs => d P fun i hi hp => by rw [e i hi]; exact hs i hi hp⟩
theorem IsGr.none_ {g : Nat → Nat → Bool} {n : Nat} {S : Nat → Bool} (h : ∀ i, i < n → S i = false) : IsGr g n S 0 :=
  ⟨⟨fun _ => false, fun _ _ h => by (cases h), fun _ _ h => by (cases h), cnP_none fun _ _ => rfl⟩, fun P hs _ => Nat.le_of_eq (cnP_none fun i hi => by
    cases hp : P i
    · rfl
    · have := hs i hi hp; rw [h i hi] at this; cases this)⟩
/-- A greatest group has a station, or not. -/
theorem IsGr.step {g : Nat → Nat → Bool} {n i m1 m2 : Nat} {S : Nat → Bool} (hi : i < n) (hS : S i = true) (hd : g i i = false) (hsym : ∀ a b, a < n → b < n → g a b = g b a)
    (h1 : IsGr g n (fun j => S j && g i j) m1) (h2 : IsGr g n (fun j => S j && decide (j ≠ i)) m2) : IsGr g n S (max (1 + m1) m2) := by
  obtain ⟨⟨P1, a1, b1, c1⟩, d1⟩ := h1
  obtain ⟨⟨P2, a2, b2, c2⟩, d2⟩ := h2
  have hup : ∀ P, SubP P S n → okP g P n → cnP P n ≤ max (1 + m1) m2 := fun P hs ho => by
    by_cases hp : P i = true
    · have h3 : cnP P n = cnP (fun j => P j && decide (j ≠ i)) n + 1 := cnP_put (i := i) (by simp) hp (fun j hj => by simp [hj]) hi
      have h4 := d1 (fun j => P j && decide (j ≠ i)) (fun j hj hq => by
        simp only [Bool.and_eq_true, decide_eq_true_eq] at hq ⊢
        refine ⟨hs j hj hq.1, ?_⟩
        rcases Nat.lt_or_ge j i with hji | hji
        · exact ho i hi hp j hji hq.1
        · rw [hsym i j hi hj]; exact ho j hj hq.1 i (by omega) hp) (fun a ha hq b hb hq' => by
        simp only [Bool.and_eq_true] at hq hq'
        exact ho a ha hq.1 b hb hq'.1)
      omega
    · have h4 := d2 P (fun j hj hq => by
        simp only [Bool.and_eq_true, decide_eq_true_eq]
        exact ⟨hs j hj hq, fun e => hp (e ▸ hq)⟩) ho
      omega
  refine ⟨?_, hup⟩
  rcases Nat.le_total m2 (1 + m1) with hm | hm
  · have e0 : P1 i = false := by
      cases hp : P1 i
      · rfl
      · have := a1 i hi hp
        simp [hd] at this
    refine ⟨fun j => P1 j || decide (j = i), fun j hj hq => ?_, fun a ha hq b hb hq' => ?_, ?_⟩
    · simp only [Bool.or_eq_true, decide_eq_true_eq] at hq
      rcases hq with hq | rfl
      · have := a1 j hj hq
        simp only [Bool.and_eq_true] at this
        exact this.1
      · exact hS
    · simp only [Bool.or_eq_true, decide_eq_true_eq] at hq hq'
      rcases hq with hq | rfl
      · rcases hq' with hq' | rfl
        · exact b1 a ha hq b hb hq'
        · have := a1 a ha hq
          simp only [Bool.and_eq_true] at this
          rw [hsym a b ha hi]; exact this.2
      · rcases hq' with hq' | rfl
        · have := a1 b (by omega) hq'
          simp only [Bool.and_eq_true] at this
          exact this.2
        · omega
    · rw [cnP_put (P := P1) (i := i) e0 (by simp) (fun j hj => by simp [hj]) hi, c1]; omega
  · refine ⟨P2, fun j hj hq => ?_, b2, by rw [c2]; omega⟩
    have := a2 j hj hq
    simp only [Bool.and_eq_true] at this
    exact this.1
/-- The model looks at the digits of all numbers. -/
theorem inQ_bit (x i : Nat) : inQ x i = x.testBit i := by unfold inQ; rw [Nat.testBit_eq_decide_div_mod_eq]
theorem popQ_cn (x : Nat) : ∀ n, popQ x n = cnP (inQ x) n
  | 0 => rfl
  | n + 1 => by rw [popQ, cnP, popQ_cn x n]
def bsQ (g : Nat → Nat → Bool) (ok : Nat → Bool) (n : Nat) : Nat → Nat
  | 0 => 0
  | x + 1 => if ok x then max (bsQ g ok n x) (popQ x n) else bsQ g ok n x
theorem bsQ_ge {g : Nat → Nat → Bool} {ok : Nat → Bool} {n : Nat} : ∀ {X x : Nat}, x < X → ok x = true → popQ x n ≤ bsQ g ok n X
  | X + 1, x, h, ho => by
    rw [bsQ]
    by_cases e : x = X
    · subst e; rw [if_pos ho]; omega
    · have := bsQ_ge (g := g) (ok := ok) (n := n) (X := X) (x := x) (by omega) ho
      split <;> omega
theorem bsQ_at {g : Nat → Nat → Bool} {ok : Nat → Bool} {n : Nat} : ∀ {X : Nat}, bsQ g ok n X = 0 ∨ ∃ x, x < X ∧ ok x = true ∧ popQ x n = bsQ g ok n X
  | 0 => .inl rfl
  | X + 1 => by
    rw [bsQ]
    rcases bsQ_at (g := g) (ok := ok) (n := n) (X := X) with h | ⟨x, h1, h2, h3⟩
    · by_cases ho : ok X = true
      · rw [if_pos ho, h]
        exact .inr ⟨X, by omega, ho, by omega⟩
      · rw [if_neg ho]; exact .inl h
    · by_cases ho : ok X = true
      · rw [if_pos ho]
        rcases Nat.le_total (bsQ g ok n X) (popQ X n) with h4 | h4
        · exact .inr ⟨X, by omega, ho, by omega⟩
        · exact .inr ⟨x, by omega, h2, by omega⟩
      · rw [if_neg ho]; exact .inr ⟨x, by omega, h2, h3⟩
theorem stN_in {P : Nat → Bool} {n i : Nat} (h : i < n) : inQ (stN P n) i = P i := by rw [inQ_bit, stN_bit]; simp [h]
theorem bsQ_is {g : Nat → Nat → Bool} {ok : Nat → Bool} {n : Nat} (hok : ∀ x, ok x = true ↔ okQ g x n) : IsGr g n (fun _ => true) (bsQ g ok n (2 ^ n)) := by
  constructor
  · rcases bsQ_at (g := g) (ok := ok) (n := n) (X := 2 ^ n) with h | ⟨x, h1, h2, h3⟩
    · exact ⟨fun _ => false, fun _ _ _ => rfl, fun _ _ h => by (cases h), by rw [h]; exact cnP_none fun _ _ => rfl⟩
    · exact ⟨inQ x, fun _ _ _ => rfl, (hok x).1 h2, by rw [← popQ_cn, h3]⟩
  · intro P _ ho
    have h1 := bsQ_ge (g := g) (ok := ok) (n := n) (stN_lt P n) ((hok _).2 fun i hi hq j hj hq' => by
      rw [stN_in hi] at hq
      rw [stN_in (by omega)] at hq'
      exact ho i hi hq j hj hq')
    rw [popQ_cn, cnP_congr (Q := P) fun i hi => stN_in hi] at h1
    exact h1
/-- A group needs its own slots. -/
theorem gr_le_slots {g : Nat → Nat → Bool} {s : List Nat} {n m M : Nat} {S : Nat → Bool} (h : IsGr g n S m) (hp : Proper g s) (hl : s.length = n) (hb : Below' M s) : m ≤ M := by
  obtain ⟨⟨P, _, b, rfl⟩, _⟩ := h
  have h1 : okQ g (stN P n) n := fun i hi hq j hj hq' => by
    rw [stN_in hi] at hq
    rw [stN_in (by omega)] at hq'
    exact b i hi hq j hj hq'
  have := group_le h1 hp hl hb
  rw [popQ_cn, cnP_congr (Q := P) fun i hi => stN_in hi] at this
  exact this
/-- Whether any two of the first n stations are in conflict. -/
theorem gr_facts {g : Nat → Nat → Bool} {n m : Nat} (h : IsGr g n (fun _ => true) m) : m ≤ n ∧ (m = 0 ↔ n = 0) ∧ (2 ≤ m ↔ ∃ i j, i < n ∧ j < i ∧ g i j = true) := by
  obtain ⟨⟨P, _, b, c⟩, d⟩ := h
  have hle : m ≤ n := by rw [← c]; exact cnP_le P n
  refine ⟨hle, ⟨fun hm => ?_, fun hn => by omega⟩, ⟨fun hm => ?_, ?_⟩⟩
  · rcases Nat.eq_zero_or_pos n with h0 | h0
    · exact h0
    · have := d (fun j => decide (j = 0)) (fun _ _ _ => rfl) (fun i hi hp j hj _ => by simp at hp; omega)
      rw [cnP_put (P := fun _ => false) (i := 0) rfl (by simp) (fun j hj => by simp [hj]) h0] at this
      omega
  · rcases Classical.em (∃ i j, i < n ∧ j < i ∧ g i j = true) with h1 | h1
    · exact h1
    · exfalso
      have key : ∀ k, k ≤ n → cnP P k ≤ 1 ∧ (cnP P k = 1 → ∃ j, j < k ∧ P j = true) := fun k => by
        induction k with
        | zero => intro _; exact ⟨Nat.zero_le _, fun h => by (cases h)⟩
        | succ k ih =>
          intro hk
          obtain ⟨i1, i2⟩ := ih (by omega)
          rw [cnP]
          cases hp : P k
          · refine ⟨by simpa using i1, fun e => ?_⟩
            obtain ⟨j, j1, j2⟩ := i2 (by simpa using e)
            exact ⟨j, by omega, j2⟩
          · have h0 : cnP P k = 0 := by
              rcases Nat.eq_zero_or_pos (cnP P k) with h0 | h0
              · exact h0
              · obtain ⟨j, j1, j2⟩ := i2 (by omega)
                exact absurd ⟨k, j, by omega, j1, b k (by omega) hp j j1 j2⟩ h1
            rw [h0]
            exact ⟨by decide, fun _ => ⟨k, by omega, hp⟩⟩
      have := (key n (Nat.le_refl _)).1
      omega
  · rintro ⟨i, j, hi, hj, hg⟩
    have := d (fun k => decide (k = j) || decide (k = i)) (fun _ _ _ => rfl) (fun a ha hp b' hb hq => by
      simp at hp hq
      have : a = i := by omega
      have : b' = j := by omega
      subst a; subst b'; exact hg)
    rw [cnP_put (P := fun k => decide (k = j)) (i := i) (by simp; omega) (by simp) (fun k hk => by simp [hk]) hi, cnP_put (P := fun _ => false) (i := j) rfl (by simp) (fun k hk => by simp [hk]) (by omega)] at this
    omega
/-- All stations in conflict. -/
theorem all_facts {g : Nat → Nat → Bool} {n : Nat} (hg : ∀ i j, i < n → j < i → g i j = true) : IsGr g n (fun _ => true) n :=
  ⟨⟨fun _ => true, fun _ _ _ => rfl, fun i hi _ j hj _ => hg i j hi hj, cnP_all fun _ _ => rfl⟩, fun P _ _ => cnP_le P n⟩
theorem all_slots {g : Nat → Nat → Bool} {n : Nat} {s : List Nat} (hg : ∀ i j, i < n → j < i → g i j = true) (hp : Proper g s) (hr : Rg s) (hl : s.length = n) : ∀ k, k < n → nl s k = k := fun k => by
  induction k using Nat.strongRecOn with
  | _ k ih =>
    intro hk
    have h1 := hr k (by omega)
    have h2 : topN s k ≤ k := topN_le fun i hi => by rw [ih i hi (by omega)]; exact hi
    rcases Nat.lt_or_ge (nl s k) k with h3 | h3
    · exact absurd (ih (nl s k) h3 (by omega)).symm (hp k (by omega) (nl s k) h3 (hg k _ hk h3))
    · omega
theorem gr_rg (g : Nat → Nat → Bool) (n : Nat) : Rg (gr g n) := fun k hk => by
  rw [gr_len] at hk
  rw [gr_at hk]
  have h1 := (grC_facts g (gr g k)).2.2
  have e : topN (gr g n) k = topN (gr g k) k := topN_congr fun i hi => by rw [gr_at (by omega), gr_at hi]
  rw [e]
  rcases Nat.lt_or_ge (topN (gr g k) k) (grC g (gr g k)) with h2 | h2
  · have h3 := h1 _ h2
    have : cfFree g (gr g k) (gr g k).length (topN (gr g k) k) (gr g k).length = true := cfFree_iff.2 fun j hj _ e => by
      rw [gr_len] at hj
      have := topN_ge (s := gr g k) hj
      omega
    rw [this] at h3; cases h3
  · exact h2
end Go.Proofs.Ytnmhiagnmfpipaa
