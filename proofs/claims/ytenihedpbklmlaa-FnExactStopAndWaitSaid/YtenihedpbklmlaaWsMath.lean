/-
  Spreading as the program computes it: codes by doubling, sums by a fast Walsh transform, lists that are being filled. No condition; plain lemmas.
-/
import Derived.Test.YtenihedpbklmlaaSprMath
namespace Go.Proofs.Ytenihedpbklmlaa
open Go.RowKit

/-- A list times a number. -/
def scL (xs : List Int) (f : Int) : List Int := xs.map (· * f)
theorem scL_length (xs : List Int) (f : Int) : (scL xs f).length = xs.length := by simp [scL]
theorem scL_el {xs : List Int} {f : Int} {i : Nat} (h : i < xs.length) : el (scL xs f) i = el xs i * f := by simp [scL, el, h]
/-- The codes by doubling. -/
def wcL (k : Nat) : Nat → List Int
  | 0 => [1]
  | m + 1 => if k < 2 ^ m then wcL (k % 2 ^ m) m ++ wcL (k % 2 ^ m) m else wcL (k % 2 ^ m) m ++ scL (wcL (k % 2 ^ m) m) (-1)
theorem wcL_length (m : Nat) : ∀ k, (wcL k m).length = 2 ^ m := by
  induction m with
  | zero => intro k; rfl
  | succ m ih =>
    intro k
    unfold wcL
    split
    · rw [List.length_append, ih, Nat.pow_succ]; omega
    · rw [List.length_append, scL_length, ih, Nat.pow_succ]; omega
theorem wcL_wal : ∀ k, k < 8 → wcL k 3 = wal k := by decide +kernel
/-- Ones, with a sign. -/
def pmL (xs : List Int) : Prop := ∀ i, -1 ≤ el xs i ∧ el xs i ≤ 1
theorem pmL_mem {xs : List Int} (h : ∀ x ∈ xs, -1 ≤ x ∧ x ≤ 1) : pmL xs := fun i => by
  by_cases hi : i < xs.length
  · exact h _ (el_mem hi)
  · rw [el_out (by omega)]; omega
theorem pmL_all {xs : List Int} (h : pmL xs) : ∀ x ∈ xs, -1 ≤ x ∧ x ≤ 1 := fun x hx => by
  obtain ⟨i, hi, rfl⟩ := List.getElem_of_mem hx
  have := h i
  rwa [el_lt hi] at this
theorem wcL_pm (m : Nat) : ∀ k, pmL (wcL k m) := by
  induction m with
  | zero => intro k; exact pmL_mem fun x hx => by simp [wcL] at hx; omega
  | succ m ih =>
    intro k
    have h := pmL_all (ih (k % 2 ^ m))
    refine pmL_mem fun x hx => ?_
    unfold wcL at hx
    split at hx
    · rcases List.mem_append.1 hx with hx | hx <;> exact h x hx
    · rcases List.mem_append.1 hx with hx | hx
      · exact h x hx
      · simp only [scL, List.mem_map] at hx
        obtain ⟨y, hy, rfl⟩ := hx
        have := h y hy
        omega
theorem wal_pm {k : Nat} (hk : k < 8) : pmL (wal k) := by rw [← wcL_wal k hk]; exact wcL_pm 3 k
/-- The chips of the first i bits. -/
def spP (bs : List Int) (k i : Nat) : List Int := (List.range (8 * i)).map (spF bs k)
theorem spP_length (bs : List Int) (k i : Nat) : (spP bs k i).length = 8 * i := by simp [spP]
theorem spP_nil (bs : List Int) (k : Nat) : spP bs k 0 = [] := rfl
theorem spP_done (bs : List Int) (k : Nat) : spP bs k bs.length = spr bs k := rfl
theorem spP_next {bs : List Int} {k i : Nat} : spP bs k (i + 1) = spP bs k i ++ scL (wal k) (2 * el bs i - 1) := by
  unfold spP
  rw [show 8 * (i + 1) = 8 * i + 8 by omega, List.range_add, List.map_append, List.map_map]
  congr 1
  unfold scL wal
  rw [List.map_map]
  apply List.map_congr_left
  intro j hj
  rw [List.mem_range] at hj
  show spF bs k (8 * i + j) = sg k j * (2 * el bs i - 1)
  unfold spF
  rw [show (8 * i + j) / 8 = i by omega, show (8 * i + j) % 8 = j by omega, Int.mul_comm]
/-- One chip more. -/
theorem spP_one (bs : List Int) (k m : Nat) : (List.range (m + 1)).map (spF bs k) = (List.range m).map (spF bs k) ++ [spF bs k m] := by
  rw [List.range_succ, List.map_append]; rfl
theorem map_one (F : Nat → Int) (m : Nat) : (List.range (m + 1)).map F = (List.range m).map F ++ [F m] := by
  rw [List.range_succ, List.map_append]; rfl
/-- A list of n numbers whose first k are made. -/
def mkX (F : Nat → Int) (n k : Nat) : List Int := (List.range n).map fun i => if i < k then F i else 0
theorem mkX_length (F : Nat → Int) (n k : Nat) : (mkX F n k).length = n := by simp [mkX]
theorem mkX_start (F : Nat → Int) (n : Nat) : mkX F n 0 = List.replicate n 0 := by
  refine list_ext9 (by simp [mkX]) fun i hi => ?_
  rw [mkX_length] at hi
  simp [mkX, el, hi]
theorem mkX_done (F : Nat → Int) (n : Nat) : mkX F n n = (List.range n).map F := by
  refine list_ext9 (by simp [mkX]) fun i hi => ?_
  rw [mkX_length] at hi
  simp [mkX, el, hi]
theorem mkX_set (F : Nat → Int) {n k : Nat} (hk : k < n) : (mkX F n k).set k (F k) = mkX F n (k + 1) := by
  refine list_ext9 (by simp [mkX]) fun i hi => ?_
  rw [List.length_set, mkX_length] at hi
  by_cases e : i = k
  · subst e; simp [mkX, el, hi]
  · have e2 : k ≠ i := fun h => e h.symm
    simp only [el, List.getD_eq_getElem?_getD, List.getElem?_set_ne e2]
    simp only [mkX, List.getElem?_map, List.getElem?_range hi, Option.map_some, Option.getD_some]
    by_cases h : i < k
    · rw [if_pos h, if_pos (by omega)]
    · rw [if_neg h, if_neg (by omega)]
/-- A list whose first k numbers are turned by f. -/
def tnX (f : Int → Int) (xs : List Int) (k : Nat) : List Int := (List.range xs.length).map fun i => if i < k then f (el xs i) else el xs i
theorem tnX_length (f : Int → Int) (xs : List Int) (k : Nat) : (tnX f xs k).length = xs.length := by simp [tnX]
theorem tnX_start (f : Int → Int) (xs : List Int) : tnX f xs 0 = xs := by
  refine list_ext9 (by simp [tnX]) fun i hi => ?_
  rw [tnX_length] at hi
  simp [tnX, el, hi]
theorem tnX_done (f : Int → Int) (xs : List Int) : tnX f xs xs.length = xs.map f := by
  refine list_ext9 (by simp [tnX]) fun i hi => ?_
  rw [tnX_length] at hi
  simp [tnX, el, hi]
theorem tnX_at (f : Int → Int) {xs : List Int} {k : Nat} (hk : k < xs.length) : el (tnX f xs k) k = el xs k := by
  simp [tnX, el, hk]
theorem tnX_set (f : Int → Int) {xs : List Int} {k : Nat} (hk : k < xs.length) : (tnX f xs k).set k (f (el xs k)) = tnX f xs (k + 1) := by
  refine list_ext9 (by simp [tnX]) fun i hi => ?_
  rw [List.length_set, tnX_length] at hi
  by_cases e : i = k
  · subst e; simp [tnX, el, hi]
  · have e2 : k ≠ i := fun h => e h.symm
    simp only [el, List.getD_eq_getElem?_getD, List.getElem?_set_ne e2]
    simp only [tnX, List.getElem?_map, List.getElem?_range hi, Option.map_some, Option.getD_some]
    by_cases h : i < k
    · rw [if_pos h, if_pos (by omega)]
    · rw [if_neg h, if_neg (by omega)]
/-- One place of the fast Walsh transform; k places of one half; n halves. -/
def wpS (ys : List Int) (h k : Nat) : List Int := if k &&& h = 0 then (ys.set k (el ys k + el ys (k + h))).set (k + h) (el ys k - el ys (k + h)) else ys
def wsS (ys : List Int) (h : Nat) : Nat → List Int
  | 0 => ys
  | k + 1 => wpS (wsS ys h k) h k
def wsN (xs : List Int) : Nat → List Int
  | 0 => xs
  | n + 1 => wsS (wsN xs n) (2 ^ n) 8
theorem wpS_length (ys : List Int) (h k : Nat) : (wpS ys h k).length = ys.length := by unfold wpS; split <;> simp
theorem wsS_length (ys : List Int) (h k : Nat) : (wsS ys h k).length = ys.length := by
  induction k with
  | zero => rfl
  | succ k ih => rw [wsS, wpS_length, ih]
theorem wsN_length (xs : List Int) (n : Nat) : (wsN xs n).length = xs.length := by
  induction n with
  | zero => rfl
  | succ n ih => rw [wsN, wsS_length, ih]
/-- Bounds. -/
def inX (M : Int) (xs : List Int) : Prop := ∀ i, -M ≤ el xs i ∧ el xs i ≤ M
theorem el_setX (ys : List Int) (k i : Nat) (v : Int) : el (ys.set k v) i = v ∧ i = k ∨ el (ys.set k v) i = el ys i := by
  by_cases h : i = k ∧ k < ys.length
  · obtain ⟨rfl, h⟩ := h
    exact .inl ⟨by simp [el, h], rfl⟩
  · right
    by_cases e : k = i
    · subst e
      have : ¬ k < ys.length := fun h' => h ⟨rfl, h'⟩
      simp [el, this]
    · simp only [el, List.getD_eq_getElem?_getD, List.getElem?_set_ne e]
theorem inX_set {M : Int} {ys : List Int} (h : inX M ys) (k : Nat) {v : Int} (hv : -M ≤ v ∧ v ≤ M) : inX M (ys.set k v) := fun i => by
  rcases el_setX ys k i v with ⟨e, _⟩ | e <;> rw [e]
  · exact hv
  · exact h i
theorem inX_more {M N : Int} {ys : List Int} (h : inX M ys) (hMN : M ≤ N) : inX N ys := fun i => by have := h i; omega
theorem inX_wp {M : Int} (hM : 0 ≤ M) {ys : List Int} (h : inX M ys) (d k : Nat) : inX (2 * M) (wpS ys d k) := by
  have h1 := h k
  have h2 := h (k + d)
  unfold wpS
  split
  · exact inX_set (inX_set (inX_more h (by omega)) _ (by omega)) _ (by omega)
  · exact inX_more h (by omega)
theorem pow2_pos (n : Nat) : (0 : Int) ≤ 2 ^ n := by
  have : (0 : Int) < 2 ^ n := Int.pow_pos (by decide)
  omega
theorem inX_ws {M : Int} (hM : 0 ≤ M) {ys : List Int} (h : inX M ys) (d : Nat) : ∀ k, inX (2 ^ k * M) (wsS ys d k)
  | 0 => by rw [Int.pow_zero, Int.one_mul]; exact h
  | k + 1 => by
    have := inX_wp (Int.mul_nonneg (pow2_pos k) hM) (inX_ws hM h d k) d k
    rw [Int.pow_succ, Int.mul_comm (2 ^ k) 2, Int.mul_assoc]
    exact this
theorem inX_wn {M : Int} (hM : 0 ≤ M) {xs : List Int} (h : inX M xs) : ∀ n, inX (256 ^ n * M) (wsN xs n)
  | 0 => by rw [Int.pow_zero, Int.one_mul]; exact h
  | n + 1 => by
    have := inX_ws (Int.mul_nonneg (show (0 : Int) ≤ 256 ^ n by have : (0 : Int) < 256 ^ n := Int.pow_pos (by decide); omega) hM) (inX_wn hM h n) (2 ^ n) 8
    rw [Int.pow_succ, Int.mul_comm (256 ^ n) 256, Int.mul_assoc]
    exact this
/-- All numbers that the fast transform of eight numbers up to 8000 meets are small. -/
theorem inX_all {xs : List Int} (h : inX 8000 xs) {n k : Nat} (hn : n < 3) (hk : k ≤ 8) : inX 200000000000 (wsS (wsN xs n) (2 ^ n) k) := by
  have h1 := inX_ws (M := 256 ^ n * 8000) (Int.mul_nonneg (by have : (0 : Int) < 256 ^ n := Int.pow_pos (by decide); omega) (by decide)) (inX_wn (by decide) h n) (2 ^ n) k
  refine inX_more h1 ?_
  have e1 : (256 : Int) ^ n ≤ 65536 := by
    have : n = 0 ∨ n = 1 ∨ n = 2 := by omega
    rcases this with rfl | rfl | rfl <;> decide
  have e2 : (2 : Int) ^ k ≤ 256 := by
    have : k = 0 ∨ k = 1 ∨ k = 2 ∨ k = 3 ∨ k = 4 ∨ k = 5 ∨ k = 6 ∨ k = 7 ∨ k = 8 := by omega
    rcases this with rfl | rfl | rfl | rfl | rfl | rfl | rfl | rfl | rfl <;> decide
  have e3 : (256 : Int) ^ n * 8000 ≤ 524288000 := by omega
  have e4 := Int.mul_le_mul e2 e3 (Int.mul_nonneg (by have : (0 : Int) < 256 ^ n := Int.pow_pos (by decide); omega) (by decide)) (by decide)
  omega
/-- The fast transform computes the sums. -/
theorem wsN_lit (a b c d e f g h : Int) : wsN [a, b, c, d, e, f, g, h] 3 =
    [a + b + (c + d) + (e + f + (g + h)), a - b + (c - d) + (e - f + (g - h)), a + b - (c + d) + (e + f - (g + h)), a - b - (c - d) + (e - f - (g - h)),
     a + b + (c + d) - (e + f + (g + h)), a - b + (c - d) - (e - f + (g - h)), a + b - (c + d) - (e + f - (g + h)), a - b - (c - d) - (e - f - (g - h))] := by kernel_rfl
theorem eight {xs : List Int} (h : xs.length = 8) : xs = [el xs 0, el xs 1, el xs 2, el xs 3, el xs 4, el xs 5, el xs 6, el xs 7] := by
  match xs, h with
  | [a, b, c, d, e, f, g, h], _ => rfl
theorem wsN_sum {xs : List Int} (hl : xs.length = 8) {k : Nat} (hk : k < 8) : el (wsN xs 3) k = sqS (fun j => el xs j * sg k j) 8 := by
  rw [eight hl, wsN_lit]
  generalize el xs 0 = a
  generalize el xs 1 = b
  generalize el xs 2 = c
  generalize el xs 3 = d
  generalize el xs 4 = e
  generalize el xs 5 = f
  generalize el xs 6 = g
  generalize el xs 7 = h
  match k, hk with
  | 0, _ | 1, _ | 2, _ | 3, _ | 4, _ | 5, _ | 6, _ | 7, _ =>
    simp [sqS, el, sg, sgN]
    try omega
  | n + 8, h => omega
/-- Eight numbers of a list. -/
def cut8 (xs : List Int) (i : Nat) : List Int := (xs.drop (8 * i)).take 8
theorem cut8_length {xs : List Int} {i : Nat} (h : 8 * i + 8 ≤ xs.length) : (cut8 xs i).length = 8 := by simp [cut8]; omega
theorem cut8_el {xs : List Int} {i j : Nat} (hj : j < 8) : el (cut8 xs i) j = el xs (8 * i + j) := by
  simp [cut8, el, List.getElem?_drop, hj]
theorem cut8_sum {xs : List Int} {i k : Nat} (h : 8 * i + 8 ≤ xs.length) (hk : k < 8) : el (wsN (cut8 xs i) 3) k = dsS xs k i := by
  rw [wsN_sum (cut8_length h) hk]
  exact sqS_congr fun j hj => by rw [cut8_el hj]
theorem cut8_in {xs : List Int} {i : Nat} (h : 8 * i + 8 ≤ xs.length) (hc : chOk 8000 xs = true) : inX 8000 (cut8 xs i) := fun j => by
  by_cases hj : j < 8
  · rw [cut8_el hj]; exact chOk_in (by decide) hc _
  · rw [el_out (by rw [cut8_length h]; omega)]; omega
end Go.Proofs.Ytenihedpbklmlaa
