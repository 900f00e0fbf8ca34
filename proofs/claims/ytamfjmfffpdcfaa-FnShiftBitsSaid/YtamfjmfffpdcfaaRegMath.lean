/-
  A feedback shift register as numbers: one step, the states, the outputs, the period. Conditions: the taps have the degree d, the seed is in 1..2^d-1.
-/
import Derived.Test.YtamfjmfffpdcfaaGen
namespace Go.Proofs.Ytamfjmfffpdcfaa

/-- The state behind one step. -/
def nxt (t s : Nat) : Nat := s / 2 ^^^ (if s % 2 = 1 then t / 2 else 0)
/-- The state behind k steps. -/
def st (t s : Nat) : Nat → Nat
  | 0 => s
  | k + 1 => nxt t (st t s k)
/-- Output k. -/
def outAt (t s k : Nat) : Int := ((st t s k % 2 : Nat) : Int)
/-- The first n outputs. -/
def outs (t s n : Nat) : List Int := (List.range n).map (outAt t s)
theorem outs_succ (t s n : Nat) : outs t s (n + 1) = outs t s n ++ [outAt t s n] := by simp [outs, List.range_succ]
theorem outs_length (t s n : Nat) : (outs t s n).length = n := by simp [outs]
theorem outs_el {t s n i : Nat} (h : i < n) : el (outs t s n) i = outAt t s i := by simp [el, outs, h]
theorem outAt_bit (t s k : Nat) : outAt t s k = 0 ∨ outAt t s k = 1 := by unfold outAt; omega
theorem outs_bit {t s n : Nat} : ∀ x ∈ outs t s n, x = 0 ∨ x = 1 := by
  intro x hx
  simp only [outs, List.mem_map] at hx
  obtain ⟨k, _, rfl⟩ := hx
  exact outAt_bit t s k
theorem outs_take (t s : Nat) {n m : Nat} (h : m ≤ n) : (outs t s n).take m = outs t s m := by
  simp [outs, ← List.map_take, List.take_range, Nat.min_eq_left h]

/-- Taps of degree d. -/
structure Tapped (t d : Nat) : Prop where
  pos : 1 ≤ d
  le : 2 ^ d ≤ t
  lt : t < 2 ^ (d + 1)

section
variable {t d a b s : Nat}
theorem nxt_zero (t : Nat) : nxt t 0 = 0 := by simp [nxt]
theorem pow_half {d : Nat} (h : 1 ≤ d) : 2 ^ d = 2 * 2 ^ (d - 1) := by
  obtain ⟨e, rfl⟩ : ∃ e, d = e + 1 := ⟨d - 1, by omega⟩
  rw [Nat.pow_succ]; simp; omega
theorem nxt_lt (h : Tapped t d) (hs : s < 2 ^ d) : nxt t s < 2 ^ d := by
  have h2 := h.lt
  rw [Nat.pow_succ] at h2
  refine Nat.xor_lt_two_pow (by omega) ?_
  split
  · omega
  · exact Nat.two_pow_pos d
theorem tapped_top (h : Tapped t d) : (t / 2).testBit (d - 1) = true := by
  have h1 := h.le
  have h2 := h.lt
  have hp := pow_half h.pos
  have h3 : t < 2 ^ (d - 1) * 4 := by rw [Nat.pow_succ] at h2; omega
  have h4 : 2 ^ (d - 1) * 2 ≤ t := by omega
  rw [Nat.testBit_eq_decide_div_mod_eq]
  have h5 : t / 2 / 2 ^ (d - 1) = 1 := by
    apply Nat.div_eq_of_lt_le <;> omega
  rw [h5]; rfl
theorem nxt_top (h : Tapped t d) (hs : s < 2 ^ d) : (nxt t s).testBit (d - 1) = decide (s % 2 = 1) := by
  have hp := pow_half h.pos
  have h0 : (s / 2).testBit (d - 1) = false := Nat.testBit_lt_two_pow (by omega)
  unfold nxt
  rw [Nat.testBit_xor, h0]
  by_cases ho : s % 2 = 1
  · simp [ho, tapped_top h]
  · simp [ho]
theorem xor_cancel {x y c : Nat} (h : x ^^^ c = y ^^^ c) : x = y := by
  have := congrArg (· ^^^ c) h
  simpa [Nat.xor_assoc] using this
theorem nxt_inj (h : Tapped t d) (ha : a < 2 ^ d) (hb : b < 2 ^ d) (e : nxt t a = nxt t b) : a = b := by
  have h1 := nxt_top h ha
  have h2 := nxt_top h hb
  rw [e, h2] at h1
  have hm : a % 2 = b % 2 := by
    by_cases ho : a % 2 = 1
    · by_cases hq : b % 2 = 1
      · omega
      · simp [ho, hq] at h1
    · by_cases hq : b % 2 = 1
      · simp [ho, hq] at h1
      · omega
  have hd : a / 2 = b / 2 := by
    unfold nxt at e
    rw [hm] at e
    exact xor_cancel e
  omega
theorem nxt_pos (h : Tapped t d) (hs : s < 2 ^ d) (h1 : 1 ≤ s) : 1 ≤ nxt t s := by
  rcases Nat.eq_zero_or_pos (nxt t s) with h0 | h0
  · have := nxt_inj h hs (Nat.two_pow_pos d) (h0.trans (nxt_zero t).symm)
    omega
  · exact h0
theorem st_in (h : Tapped t d) (hs : s < 2 ^ d) (h1 : 1 ≤ s) : ∀ k, 1 ≤ st t s k ∧ st t s k < 2 ^ d
  | 0 => ⟨h1, hs⟩
  | k + 1 => ⟨nxt_pos h (st_in h hs h1 k).2 (st_in h hs h1 k).1, nxt_lt h (st_in h hs h1 k).2⟩
theorem st_add (t s i : Nat) : ∀ k, st t s (i + k) = st t (st t s i) k
  | 0 => rfl
  | k + 1 => congrArg (nxt t) (st_add t s i k)
theorem st_back (h : Tapped t d) (hs : s < 2 ^ d) (h1 : 1 ≤ s) : ∀ i k, st t s i = st t s (i + k) → s = st t s k
  | 0, k, e => by rw [Nat.zero_add] at e; exact e
  | i + 1, k, e => by
    refine st_back h hs h1 i k (nxt_inj h (st_in h hs h1 i).2 (st_in h hs h1 (i + k)).2 ?_)
    rw [Nat.add_right_comm] at e
    exact e
end

/-- Numbers below n, each once, are at most n. -/
theorem nodup_below : ∀ (n : Nat) (l : List Nat), l.Nodup → (∀ x ∈ l, x < n) → l.length ≤ n
  | 0, l, _, h => by
    cases l with
    | nil => simp
    | cons x l => have := h x (by simp); omega
  | n + 1, l, hd, h => by
    have ih := nodup_below n (l.erase n) (hd.erase n) (fun x hx => by
      have h1 := (hd.mem_erase_iff).1 hx
      have h2 := h x h1.2
      have h3 := h1.1
      omega)
    by_cases hm : n ∈ l
    · rw [List.length_erase_of_mem hm] at ih
      omega
    · rw [List.erase_of_not_mem hm] at ih
      omega
/-- N + 1 numbers below N: two are equal. -/
theorem twice_same {f : Nat → Nat} {N : Nat} (hf : ∀ k, f k < N) : ∃ i j, i < j ∧ j ≤ N ∧ f i = f j := by
  apply Classical.byContradiction
  intro hc
  have hnd : ((List.range (N + 1)).map f).Nodup := by
    rw [List.nodup_iff_pairwise_ne, List.pairwise_map]
    refine List.Pairwise.imp_of_mem ?_ (List.pairwise_lt_range (n := N + 1))
    intro i j hi hj hij e
    have := List.mem_range.1 hj
    exact hc ⟨i, j, hij, by omega, e⟩
  have := nodup_below N _ hnd (fun x hx => by obtain ⟨k, _, rfl⟩ := List.mem_map.1 hx; exact hf k)
  simp at this
  omega

/-- n is the period: the seed is back behind n steps, not before. -/
structure IsPer (t s n : Nat) : Prop where
  pos : 1 ≤ n
  back : st t s n = s
  first : ∀ j, 1 ≤ j → j < n → st t s j ≠ s
theorem IsPer.unique {t s n m : Nat} (h : IsPer t s n) (k : IsPer t s m) : n = m := by
  rcases Nat.lt_trichotomy n m with hl | he | hg
  · exact absurd h.back (k.first n h.pos hl)
  · exact he
  · exact absurd k.back (h.first m k.pos hg)
theorem least_back (t s : Nat) : ∀ N, (∃ n, 1 ≤ n ∧ n ≤ N ∧ st t s n = s) → ∃ n, n ≤ N ∧ IsPer t s n
  | 0, ⟨n, h1, h2, _⟩ => by omega
  | N + 1, ⟨n, h1, h2, h3⟩ => by
    by_cases hc : ∃ n, 1 ≤ n ∧ n ≤ N ∧ st t s n = s
    · obtain ⟨m, hm, hp⟩ := least_back t s N hc
      exact ⟨m, by omega, hp⟩
    · have hn : n = N + 1 := by
        rcases Nat.lt_or_ge n (N + 1) with hl | hg
        · exact absurd ⟨n, h1, by omega, h3⟩ hc
        · omega
      subst hn
      exact ⟨N + 1, Nat.le_refl _, h1, h3, fun j hj1 hj2 e => hc ⟨j, hj1, by omega, e⟩⟩
theorem per_ex {t d s : Nat} (h : Tapped t d) (hs : s < 2 ^ d) (h1 : 1 ≤ s) : ∃ n, n ≤ 2 ^ d - 1 ∧ IsPer t s n := by
  refine least_back t s _ ?_
  have hp := Nat.two_pow_pos d
  obtain ⟨i, j, hij, hj, e⟩ := twice_same (f := fun k => st t s k - 1) (N := 2 ^ d - 1) (fun k => by
    have := st_in h hs h1 k
    omega)
  have hi' := st_in h hs h1 i
  have hj' := st_in h hs h1 j
  have e' : st t s i = st t s j := by
    have e1 : st t s i - 1 = st t s j - 1 := e
    omega
  refine ⟨j - i, by omega, by omega, ?_⟩
  refine (st_back h hs h1 i (j - i) ?_).symm
  rw [e', show i + (j - i) = j by omega]
theorem IsPer.out {t s n : Nat} (h : IsPer t s n) (k : Nat) : outAt t s (k + n) = outAt t s k := by
  unfold outAt
  rw [Nat.add_comm, st_add, h.back]
end Go.Proofs.Ytamfjmfffpdcfaa
