/-
  A transform of sixteen numbers modulo 257: lists, what the functions of chapter 11 answer, the sums as the model's loops make them. No condition; plain lemmas.
-/
import Derived.Test.YtkigjnjbjbnidaaTrMath
namespace Go.Proofs.Ytkigjnjbjbnidaa
open Go.RowKit

/-- A list of sixteen numbers below 257. -/
def pt (x : Int) : Bool := decide (0 ≤ x) && decide (x ≤ 256)
def ptOk (xs : List Int) : Bool := decide (xs.length = 16) && xs.all pt
theorem pt_yes {n : Int} (h : pt n = true) : 0 ≤ n ∧ n ≤ 256 := by simpa [pt] using h
theorem ptOk_len {xs : List Int} (h : ptOk xs = true) : xs.length = 16 := by
  simp only [ptOk, Bool.and_eq_true, decide_eq_true_eq] at h; exact h.1
theorem ptOk_in {xs : List Int} (h : ptOk xs = true) (i : Nat) : 0 ≤ el xs i ∧ el xs i < 257 := by
  by_cases hi : i < xs.length
  · simp only [ptOk, Bool.and_eq_true, List.all_eq_true] at h
    have := pt_yes (h.2 _ (el_mem hi))
    omega
  · rw [el_out (by omega)]; omega
theorem ptOk_lenNo {xs : List Int} (h : xs.length ≠ 16) : ptOk xs = false := by simp [ptOk, h]
theorem ptOk_bad {xs : List Int} {i : Nat} (hi : i < xs.length) (h : pt (el xs i) = false) : ptOk xs = false := by
  cases e : ptOk xs
  · rfl
  · simp only [ptOk, Bool.and_eq_true, List.all_eq_true] at e
    rw [e.2 _ (el_mem hi)] at h; cases h
def ptTo (xs : List Int) (n : Nat) : Prop := ∀ i, i < n → pt (el xs i) = true
theorem ptTo_next {xs : List Int} {n : Nat} (h : ptTo xs n) (hn : pt (el xs n) = true) : ptTo xs (n + 1) := fun i hi => by
  by_cases e : i = n
  · subst e; exact hn
  · exact h i (by omega)
theorem ptOk_good {xs : List Int} (h : ptTo xs xs.length) (hl : xs.length = 16) : ptOk xs = true := by
  simp only [ptOk, Bool.and_eq_true, decide_eq_true_eq, List.all_eq_true]
  refine ⟨hl, fun x hx => ?_⟩
  obtain ⟨i, hi, rfl⟩ := List.getElem_of_mem hx
  have := h i hi
  rwa [el_lt hi] at this
/-- The list of the first sixteen values. -/
def l16 (f : Nat → Int) : List Int := (List.range 16).map f
theorem l16_length (f : Nat → Int) : (l16 f).length = 16 := by simp [l16]
theorem l16_el {f : Nat → Int} {k : Nat} (h : k < 16) : el (l16 f) k = f k := by simp [l16, el, h]
theorem l16_eq {xs : List Int} {f : Nat → Int} (hl : xs.length = 16) (h : ∀ k, k < 16 → el xs k = f k) : xs = l16 f :=
  list_ext9 (by rw [l16_length, hl]) fun k hk => by rw [l16_el (by omega), h k (by omega)]
theorem l16_congr {f g : Nat → Int} (h : ∀ k, k < 16 → f k = g k) : l16 f = l16 g := l16_eq (l16_length f) fun k hk => by rw [l16_el hk, h k hk]
theorem l16_ok {f : Nat → Int} (h : ∀ k, k < 16 → 0 ≤ f k ∧ f k < 257) : ptOk (l16 f) = true := ptOk_good (fun i hi => by
  rw [l16_length] at hi
  rw [l16_el hi]
  have := h i hi
  simp only [pt, Bool.and_eq_true, decide_eq_true_eq]
  omega) (l16_length f)
theorem l16_snoc (f : Nat → Int) (k : Nat) : (List.range (k + 1)).map f = (List.range k).map f ++ [f k] := by rw [List.range_succ, List.map_append]; rfl
/-- What the functions answer. -/
def ftOr (xs : List Int) : List Int := if ptOk xs then l16 (ftF (el xs)) else []
def btOr (xs : List Int) : List Int := if ptOk xs then l16 (btF (el xs)) else []
def cpOr (xs ys : List Int) : List Int := if ptOk xs && ptOk ys then l16 (cpF (el xs) (el ys)) else []
def apOr (xs : List Int) (n : Int) : List Int := if ptOk xs = true ∧ 0 ≤ n ∧ n ≤ 16 then xs.drop (16 - n.toNat) ++ xs else []
theorem ftOr_no {xs : List Int} (h : ptOk xs = false) : ftOr xs = [] := by simp [ftOr, h]
theorem ftOr_yes {xs : List Int} (h : ptOk xs = true) : ftOr xs = l16 (ftF (el xs)) := by simp [ftOr, h]
theorem btOr_no {xs : List Int} (h : ptOk xs = false) : btOr xs = [] := by simp [btOr, h]
theorem btOr_yes {xs : List Int} (h : ptOk xs = true) : btOr xs = l16 (btF (el xs)) := by simp [btOr, h]
theorem cpOr_l {xs ys : List Int} (h : ptOk xs = false) : cpOr xs ys = [] := by simp [cpOr, h]
theorem cpOr_r {xs ys : List Int} (h : ptOk ys = false) : cpOr xs ys = [] := by simp [cpOr, h]
theorem cpOr_yes {xs ys : List Int} (h : ptOk xs = true) (h' : ptOk ys = true) : cpOr xs ys = l16 (cpF (el xs) (el ys)) := by simp [cpOr, h, h']
theorem apOr_no {xs : List Int} {n : Int} (h : ¬ (ptOk xs = true ∧ 0 ≤ n ∧ n ≤ 16)) : apOr xs n = [] := if_neg h
theorem apOr_yes {xs : List Int} {N : Nat} (h : ptOk xs = true) (hN : N ≤ 16) : apOr xs (N : Int) = xs.drop (16 - N) ++ xs := by
  unfold apOr
  rw [if_pos ⟨h, by omega, by omega⟩]; rfl
theorem ftOr_length (xs : List Int) : (ftOr xs).length ≤ 16 := by
  unfold ftOr; split
  · rw [l16_length]; omega
  · simp
theorem btOr_length (xs : List Int) : (btOr xs).length ≤ 16 := by
  unfold btOr; split
  · rw [l16_length]; omega
  · simp
theorem cpOr_length (xs ys : List Int) : (cpOr xs ys).length ≤ 16 := by
  unfold cpOr; split
  · rw [l16_length]; omega
  · simp
theorem apOr_length (xs : List Int) (n : Int) : (apOr xs n).length ≤ 32 := by
  unfold apOr; split
  · next h => have := ptOk_len h.1; simp; omega
  · simp
theorem ftOr_pos {xs : List Int} (h : (ftOr xs).length ≠ 0) : ptOk xs = true := by
  cases e : ptOk xs
  · rw [ftOr_no e] at h; exact absurd rfl h
  · rfl
theorem btOr_pos {xs : List Int} (h : (btOr xs).length ≠ 0) : ptOk xs = true := by
  cases e : ptOk xs
  · rw [btOr_no e] at h; exact absurd rfl h
  · rfl
theorem cpOr_pos {xs ys : List Int} (h : (cpOr xs ys).length ≠ 0) : ptOk xs = true ∧ ptOk ys = true := by
  cases e : ptOk xs
  · rw [cpOr_l e] at h; exact absurd rfl h
  · cases e' : ptOk ys
    · rw [cpOr_r e'] at h; exact absurd rfl h
    · exact ⟨rfl, rfl⟩
theorem ftOr_ok {xs : List Int} (h : ptOk xs = true) : ptOk (ftOr xs) = true ∧ ∀ k, k < 16 → el (ftOr xs) k = ftF (el xs) k := by
  rw [ftOr_yes h]
  exact ⟨l16_ok fun k _ => ftF_in _ _, fun k hk => l16_el hk⟩
theorem btOr_ok {xs : List Int} (h : ptOk xs = true) : ptOk (btOr xs) = true ∧ ∀ k, k < 16 → el (btOr xs) k = btF (el xs) k := by
  rw [btOr_yes h]
  exact ⟨l16_ok fun k _ => btF_in _ _, fun k hk => l16_el hk⟩
theorem cpOr_ok {xs ys : List Int} (h : ptOk xs = true) (h' : ptOk ys = true) : ptOk (cpOr xs ys) = true ∧ ∀ k, k < 16 → el (cpOr xs ys) k = cpF (el xs) (el ys) k := by
  rw [cpOr_yes h h']
  exact ⟨l16_ok fun k _ => cpF_in _ _ _, fun k hk => l16_el hk⟩
/-- The laws, of lists. -/
theorem bt_ft_list {xs : List Int} (h : ptOk xs = true) : btOr (ftOr xs) = xs := by
  obtain ⟨h1, h2⟩ := ftOr_ok h
  rw [btOr_yes h1]
  exact (l16_eq (ptOk_len h) fun k hk => by rw [btF_congr h2, bt_ft (fun j _ => ptOk_in h j) hk]).symm
theorem ft_bt_list {xs : List Int} (h : ptOk xs = true) : ftOr (btOr xs) = xs := by
  obtain ⟨h1, h2⟩ := btOr_ok h
  rw [ftOr_yes h1]
  exact (l16_eq (ptOk_len h) fun k hk => by rw [ftF_congr h2, ft_bt (fun j _ => ptOk_in h j) hk]).symm
theorem cp_comm_list (xs ys : List Int) : cpOr ys xs = cpOr xs ys := by
  cases e : ptOk xs
  · rw [cpOr_l e, cpOr_r e]
  · cases e' : ptOk ys
    · rw [cpOr_r e', cpOr_l e']
    · rw [cpOr_yes e e', cpOr_yes e' e]
      exact l16_congr fun k hk => cpF_comm _ _ hk
theorem ft_cp_at {xs ys : List Int} (h : ptOk xs = true) (h' : ptOk ys = true) {k : Nat} (hk : k < 16) : el (ftOr (cpOr xs ys)) k = el (ftOr xs) k * el (ftOr ys) k % 257 := by
  obtain ⟨h1, h2⟩ := cpOr_ok h h'
  rw [(ftOr_ok h1).2 k hk, (ftOr_ok h).2 k hk, (ftOr_ok h').2 k hk, ftF_congr h2, ft_cp]
theorem ft_twice_at {xs : List Int} (h : ptOk xs = true) {k : Nat} (hk : k < 16) : el (ftOr (ftOr xs)) k = 16 * el xs ((16 - k) % 16) % 257 := by
  obtain ⟨h1, h2⟩ := ftOr_ok h
  rw [(ftOr_ok h1).2 k hk, ftF_congr h2, ft_ft _ hk]
theorem ft_flat_at {c : Int} (hc : 0 ≤ c ∧ c < 257) {k : Nat} (hk : k < 16) : ptOk (l16 fun j => if j = 0 then c else 0) = true ∧ el (ftOr (l16 fun j => if j = 0 then c else 0)) k = c := by
  have h : ptOk (l16 fun j => if j = 0 then c else 0) = true := l16_ok fun k _ => by split <;> omega
  refine ⟨h, ?_⟩
  rw [(ftOr_ok h).2 k hk, ftF_congr (fun j hj => l16_el hj), ft_flat hc]
theorem ft_first_at {xs : List Int} (h : ptOk xs = true) : el (ftOr xs) 0 = sqS (el xs) 16 % 257 := by
  rw [(ftOr_ok h).2 0 (by omega), ft_first]
theorem ft_sum_list {xs ys : List Int} (h : ptOk xs = true) (h' : ptOk ys = true) : ftOr (l16 fun k => (el xs k + el ys k) % 257) = l16 fun k => (el (ftOr xs) k + el (ftOr ys) k) % 257 := by
  have h1 : ptOk (l16 fun k => (el xs k + el ys k) % 257) = true := l16_ok fun k _ => ⟨Int.emod_nonneg _ (by decide), Int.emod_lt_of_pos _ (by decide)⟩
  rw [ftOr_yes h1]
  exact l16_congr fun k hk => by rw [ftF_congr (fun j hj => l16_el hj), ft_add, (ftOr_ok h).2 k hk, (ftOr_ok h').2 k hk]
/-- A list turned by one place. -/
theorem moved_el {xs : List Int} (hl : xs.length = 16) : el xs 15 :: xs.take 15 = l16 fun j => el xs ((j + 15) % 16) := by
  refine l16_eq (by simp [hl]) fun k hk => ?_
  match k, hk with
  | 0, _ => rfl
  | k + 1, hk =>
    rw [show (k + 1 + 15) % 16 = k by omega]
    have h1 : k < 15 := by omega
    simp [el, h1]
theorem ft_moved_at {xs : List Int} (h : ptOk xs = true) {k : Nat} (hk : k < 16) : ptOk (el xs 15 :: xs.take 15) = true ∧ el (ftOr (el xs 15 :: xs.take 15)) k = el (ftOr xs) k * tw k % 257 := by
  have e := moved_el (ptOk_len h)
  have h1 : ptOk (el xs 15 :: xs.take 15) = true := by rw [e]; exact l16_ok fun j _ => ptOk_in h _
  refine ⟨h1, ?_⟩
  rw [(ftOr_ok h1).2 k hk, (ftOr_ok h).2 k hk, e, ftF_congr (fun j hj => l16_el hj), ft_shift]
/-- A list behind its prefix. -/
theorem pre_el {xs : List Int} (hl : xs.length = 16) {N i : Nat} (hN : N ≤ 16) (hi : i < 16 + N) : el (xs.drop (16 - N) ++ xs) i = el xs ((i + 16 - N) % 16) := by
  have hd : (xs.drop (16 - N)).length = N := by simp [hl]; omega
  by_cases h : i < N
  · rw [show (i + 16 - N) % 16 = i + 16 - N by omega]
    unfold el
    rw [List.getD_eq_getElem?_getD, List.getD_eq_getElem?_getD, List.getElem?_append_left (by omega), List.getElem?_drop]
    congr 2
    omega
  · rw [show (i + 16 - N) % 16 = i - N by omega]
    unfold el
    rw [List.getD_eq_getElem?_getD, List.getD_eq_getElem?_getD, List.getElem?_append_right (by omega), hd]
theorem pre_at {xs ts : List Int} (h : ptOk xs = true) (h' : ptOk ts = true) (ht : ∀ j, 4 ≤ j → el ts j = 0) {k : Nat} (hk : k < 16) : sqS (fun j => el ts j * el (apOr xs 3) (3 + k - j)) 4 % 257 = el (cpOr xs ts) k := by
  have e : apOr xs 3 = xs.drop (16 - 3) ++ xs := apOr_yes (N := 3) h (by omega)
  rw [(cpOr_ok h h').2 k hk, ← cpF_comm _ _ hk, ← pre_cp _ _ ht, e]
  congr 1
  refine sqS_congr fun j hj => ?_
  rw [pre_el (ptOk_len h) (by omega) (by omega), show 3 + k - j + 16 - 3 = 3 + k - j + 13 by omega]
/-- Powers as loops make them. -/
theorem tw_in (n : Nat) : 0 ≤ tw n ∧ tw n < 257 := ⟨Int.emod_nonneg _ (by decide), Int.emod_lt_of_pos _ (by decide)⟩
theorem tw_next (m n : Nat) : tw m * tw n % 257 = tw (m + n) := by
  refine cg_eq ((cg_mod _).trans (tw_add m n).symm) ⟨Int.emod_nonneg _ (by decide), Int.emod_lt_of_pos _ (by decide)⟩ (tw_in _)
theorem tw_one (m : Nat) : tw m * 2 % 257 = tw (m + 1) := by rw [← tw_next m 1]; rfl
theorem tw_root (k : Nat) (h1 : 1 ≤ k) (h2 : k ≤ 16) : tw k = 1 ↔ k = 16 := by
  have h : ∀ k, k < 17 → 1 ≤ k → (tw k = 1 ↔ k = 16) := by decide +kernel
  exact h k (by omega) h1
/-- A sum as a loop makes it, modulo 257 at every step. -/
theorem modS_next (f : Nat → Int) (n : Nat) : (sqS f n % 257 + f n) % 257 = sqS f (n + 1) % 257 := by
  show _ = (sqS f n + f n) % 257
  omega
end Go.Proofs.Ytkigjnjbjbnidaa
