/-
  Raised and lowered rates, the best place, the rows of a convolution, what the functions of chapter 10 answer. No condition; plain lemmas.
-/
import Derived.Test.YtgdfjbdpidileaaSeqMath
namespace Go.Proofs.Ytgdfjbdpidileaa
open Go.RowKit

theorem el_map {n k : Nat} {f : Nat → Int} (h : k < n) : el ((List.range n).map f) k = f k := by simp [el, h]
/-- A raised sequence. -/
def raiN (xs : List Int) (N : Nat) (k : Nat) : Int := if k % N = 0 then el xs (k / N) else 0
def rai (xs : List Int) (N : Nat) : List Int := (List.range (xs.length * N)).map (raiN xs N)
theorem rai_length (xs : List Int) (N : Nat) : (rai xs N).length = xs.length * N := by simp [rai]
def raiOr (xs : List Int) (n : Int) : List Int := if seqOk xs = true ∧ 1 ≤ n ∧ n ≤ 8 ∧ (xs.length : Int) * n ≤ 64 then rai xs n.toNat else []
/-- A lowered sequence. -/
def lowC (len N P : Nat) : Nat := (len + N - 1 - P) / N
def low (xs : List Int) (N P : Nat) : List Int := (List.range (lowC xs.length N P)).map fun j => el xs (P + j * N)
theorem low_length (xs : List Int) (N P : Nat) : (low xs N P).length = lowC xs.length N P := by simp [low]
def lowOr (xs : List Int) (n p : Int) : List Int := if seqOk xs = true ∧ 1 ≤ n ∧ n ≤ 8 ∧ 0 ≤ p ∧ p ≤ n - 1 then low xs n.toNat p.toNat else []
theorem lowC_lt {len N P j : Nat} (hP : P < N) : j < lowC len N P ↔ P + j * N < len := by
  unfold lowC
  rw [Nat.lt_iff_add_one_le, Nat.le_div_iff_mul_le (by omega), Nat.add_mul, Nat.one_mul]
  omega
theorem low_snoc (xs : List Int) (N P j : Nat) : (List.range (j + 1)).map (fun j => el xs (P + j * N)) = (List.range j).map (fun j => el xs (P + j * N)) ++ [el xs (P + j * N)] := by rw [List.range_succ, List.map_append]; rfl
theorem low_one (xs : List Int) : low xs 1 0 = xs :=
  list_ext9 (by rw [low_length, lowC]; omega) fun k hk => by
    rw [low_length, lowC] at hk
    rw [low, el_map (by rw [lowC]; exact hk)]
    congr 1; omega
theorem low_rai {xs : List Int} {N P : Nat} (hN : 1 ≤ N) (hP : P < N) : low (rai xs N) N P = if P = 0 then xs else List.replicate xs.length 0 := by
  have hl : lowC (xs.length * N) N P = xs.length := by
    unfold lowC
    rw [show xs.length * N + N - 1 - P = (N - 1 - P) + xs.length * N by omega, Nat.add_mul_div_right _ _ (by omega), Nat.div_eq_of_lt (by omega)]; omega
  have hel : ∀ j, j < xs.length → el (low (rai xs N) N P) j = if P = 0 then el xs j else 0 := fun j hj => by
    rw [low, el_map (by rw [rai_length, hl]; exact hj)]
    have hb : P + j * N < xs.length * N := by
      have : (j + 1) * N ≤ xs.length * N := Nat.mul_le_mul_right N hj
      rw [Nat.add_mul] at this
      omega
    rw [rai, el_map hb, raiN, Nat.add_mul_mod_self_right, Nat.mod_eq_of_lt hP, Nat.add_mul_div_right _ _ (by omega), Nat.div_eq_of_lt hP, Nat.zero_add]
  by_cases h : P = 0
  · rw [if_pos h]
    exact list_ext9 (by rw [low_length, rai_length, hl]) fun k hk => by
      rw [low_length, rai_length, hl] at hk
      rw [hel k hk, if_pos h]
  · rw [if_neg h]
    exact list_ext9 (by rw [low_length, rai_length, hl, List.length_replicate]) fun k hk => by
      rw [low_length, rai_length, hl] at hk
      rw [hel k hk, if_neg h]
      simp [el, hk]
/-- The numbers of all phases below k together. -/
def manyC (len N : Nat) : Nat → Nat
  | 0 => 0
  | k + 1 => manyC len N k + lowC len N k
theorem manyC_all {len N : Nat} (hN : 1 ≤ N) : manyC len N N = len := by
  induction len with
  | zero =>
    have : ∀ k, k ≤ N → manyC 0 N k = 0 := fun k => by
      induction k with
      | zero => intro _; rfl
      | succ k ih =>
        intro hk
        show manyC 0 N k + lowC 0 N k = 0
        rw [ih (by omega), lowC, Nat.div_eq_of_lt (by omega)]
    exact this N (Nat.le_refl _)
  | succ len ih =>
    have step : ∀ k, k ≤ N → manyC (len + 1) N k = manyC len N k + if len % N < k then 1 else 0 := fun k => by
      induction k with
      | zero => intro _; rfl
      | succ k ih2 =>
        intro hk
        have h0 := ih2 (by omega)
        show manyC (len + 1) N k + lowC (len + 1) N k = manyC len N k + lowC len N k + _
        have e : lowC (len + 1) N k = lowC len N k + if len % N = k then 1 else 0 := by
          have hd := Nat.div_add_mod len N
          have hm := Nat.mod_lt len hN
          obtain ⟨q, hq⟩ : ∃ q, q = len / N := ⟨_, rfl⟩
          obtain ⟨r, hr⟩ : ∃ r, r = len % N := ⟨_, rfl⟩
          rw [← hq, ← hr] at hd
          rw [← hr] at hm ⊢
          unfold lowC
          have hcomm : N * q = q * N := Nat.mul_comm _ _
          by_cases c1 : r = k
          · rw [if_pos c1, show len + 1 + N - 1 - k = 0 + (q + 1) * N by rw [Nat.add_mul]; omega, show len + N - 1 - k = (N - 1) + q * N by omega, Nat.add_mul_div_right _ _ hN, Nat.add_mul_div_right _ _ hN, Nat.div_eq_of_lt (show 0 < N by omega), Nat.div_eq_of_lt (show N - 1 < N by omega)]; omega
          · rw [if_neg c1]
            by_cases c2 : k < r
            · rw [show len + 1 + N - 1 - k = (r - k) + (q + 1) * N by rw [Nat.add_mul]; omega, show len + N - 1 - k = (r - 1 - k) + (q + 1) * N by rw [Nat.add_mul]; omega, Nat.add_mul_div_right _ _ hN, Nat.add_mul_div_right _ _ hN, Nat.div_eq_of_lt (show r - k < N by omega), Nat.div_eq_of_lt (show r - 1 - k < N by omega)]; omega
            · rw [show len + 1 + N - 1 - k = (r + N - k) + q * N by omega, show len + N - 1 - k = (r + N - 1 - k) + q * N by omega, Nat.add_mul_div_right _ _ hN, Nat.add_mul_div_right _ _ hN, Nat.div_eq_of_lt (show r + N - k < N by omega), Nat.div_eq_of_lt (show r + N - 1 - k < N by omega), Nat.add_zero]
        rw [h0, e]
        by_cases c1 : len % N < k
        · rw [if_pos c1, if_neg (by omega), if_pos (by omega)]; omega
        · by_cases c2 : len % N = k
          · rw [if_neg c1, if_pos c2, if_pos (by omega)]; omega
          · rw [if_neg c1, if_neg c2, if_neg (by omega)]; omega
    rw [step N (Nat.le_refl _), ih, if_pos (Nat.mod_lt _ hN)]
/-- The best place among 0 .. n: the first one with the greatest value. -/
def fpN (c : Nat → Int) : Nat → Nat
  | 0 => 0
  | n + 1 => if c (fpN c n) < c (n + 1) then n + 1 else fpN c n
theorem fpN_le (c : Nat → Int) : ∀ n, fpN c n ≤ n
  | 0 => Nat.le_refl _
  | n + 1 => by
    have := fpN_le c n
    unfold fpN
    split <;> omega
theorem fpN_best (c : Nat → Int) : ∀ n, (∀ k, k ≤ n → c k ≤ c (fpN c n)) ∧ ∀ k, k < fpN c n → c k < c (fpN c n)
  | 0 => ⟨fun k hk => by obtain rfl : k = 0 := by omega
                         exact Int.le_refl _, fun k hk => absurd hk (by unfold fpN; omega)⟩
  | n + 1 => by
    obtain ⟨h1, h2⟩ := fpN_best c n
    unfold fpN
    by_cases h : c (fpN c n) < c (n + 1)
    · rw [if_pos h]
      refine ⟨fun k hk => ?_, fun k hk => ?_⟩
      · by_cases e : k = n + 1
        · rw [e]; exact Int.le_refl _
        · have := h1 k (by omega); omega
      · have := h1 k (by omega); omega
    · rw [if_neg h]
      refine ⟨fun k hk => ?_, h2⟩
      by_cases e : k = n + 1
      · rw [e]; omega
      · exact h1 k (by omega)
/-- A place that is better than all others is the best one. -/
theorem fpN_only {c : Nat → Int} {n m : Nat} (hm : m ≤ n) (h : ∀ k, k ≤ n → k ≠ m → c k < c m) : fpN c n = m := by
  have h1 := (fpN_best c n).1 m hm
  by_cases e : fpN c n = m
  · exact e
  · have := h (fpN c n) (fpN_le c n) e
    omega
def fpOr (xs ps : List Int) : Int := if seqOk xs = true ∧ seqOk ps = true ∧ 0 < ps.length ∧ ps.length ≤ xs.length then (fpN (fun q => crS xs ps q ps.length) (xs.length - ps.length) : Nat) else -1
/-- Undone, if all of it is in the range. -/
def undOk (xs fs : List Int) : Prop := seqOk xs = true ∧ seqOk fs = true ∧ 0 < fs.length ∧ el fs 0 = 1 ∧ seqTo (und xs fs xs.length) xs.length
/-- Cell m of a convolution, when i rows and j numbers of the next are added. -/
def cvR (a b : Nat → Int) (i j m : Nat) : Int := sqS (fun t => if t ≤ m then a t * b (m - t) else 0) i + if i ≤ m ∧ m - i < j then a i * b (m - i) else 0
theorem cvR_start (a b : Nat → Int) (m : Nat) : cvR a b 0 0 m = 0 := by
  unfold cvR
  rw [if_neg (by omega)]; rfl
theorem cvR_step (a b : Nat → Int) (i j m : Nat) : cvR a b i (j + 1) m = cvR a b i j m + if m = i + j then a i * b j else 0 := by
  unfold cvR
  by_cases e : m = i + j
  · rw [if_pos e, if_pos (by omega), if_neg (by omega), show m - i = j by omega]; omega
  · rw [if_neg e]
    by_cases h : i ≤ m ∧ m - i < j
    · rw [if_pos h, if_pos (by omega)]; omega
    · rw [if_neg h, if_neg (by omega), Int.add_zero, Int.add_zero]
theorem cvR_row {a b : Nat → Int} {n : Nat} (hb : ∀ i, n ≤ i → b i = 0) (i m : Nat) : cvR a b i n m = cvR a b (i + 1) 0 m := by
  unfold cvR
  show _ = (sqS _ i + if i ≤ m then a i * b (m - i) else 0) + _
  rw [if_neg (show ¬ (i + 1 ≤ m ∧ m - (i + 1) < 0) by omega), Int.add_zero]
  congr 1
  by_cases h : i ≤ m
  · by_cases h2 : m - i < n
    · rw [if_pos ⟨h, h2⟩, if_pos h]
    · rw [if_neg (by omega), if_pos h, hb (m - i) (by omega), Int.mul_zero]
  · rw [if_neg (by omega), if_neg h]
theorem cvR_done {a b : Nat → Int} {n : Nat} (ha : ∀ i, n ≤ i → a i = 0) (m : Nat) : cvR a b n 0 m = cvF a b m := by
  unfold cvR cvF
  rw [if_neg (by omega), Int.add_zero]
  have e : sqS (fun i => a i * b (m - i)) (m + 1) = sqS (fun t => if t ≤ m then a t * b (m - t) else 0) (m + 1) := sqS_congr fun i hi => by rw [if_pos (show i ≤ m by omega)]
  rw [e]
  rcases Nat.le_total n (m + 1) with h | h
  · rw [sqS_tail h fun i hi => by rw [ha i hi, Int.zero_mul]; split <;> rfl]
  · rw [sqS_tail h fun i hi => if_neg (by omega)]
theorem cvR_in {xs ys : List Int} (hx : seqOk xs = true) (hy : seqOk ys = true) {i j m : Nat} (hi : i ≤ 200) : -1000000000 ≤ cvR (el xs) (el ys) i j m ∧ cvR (el xs) (el ys) i j m ≤ 1000000000 := by
  have h := sqS_bound (f := fun t => if t ≤ m then el xs t * el ys (m - t) else 0) (M := 1000000) (n := i) fun t _ => by
    have := prod_in (seqOk_in hx t) (seqOk_in hy (m - t))
    split <;> omega
  have h2 := prod_in (seqOk_in hx i) (seqOk_in hy (m - i))
  unfold cvR
  split <;> omega
end Go.Proofs.Ytgdfjbdpidileaa
