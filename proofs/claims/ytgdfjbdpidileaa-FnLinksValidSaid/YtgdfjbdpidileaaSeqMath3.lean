/-
  A pattern between zeros is found where it is: mathematics. No condition; plain lemmas.
-/
import Derived.Test.YtgdfjbdpidileaaSeqMath2
namespace Go.Proofs.Ytgdfjbdpidileaa
open Go.RowKit

theorem sqS_nonneg {f : Nat → Int} : ∀ {n : Nat}, (∀ i, i < n → 0 ≤ f i) → 0 ≤ sqS f n
  | 0, _ => Int.le_refl _
  | n + 1, h => by
    have h1 := sqS_nonneg (n := n) fun i hi => h i (by omega)
    have h2 := h n (by omega)
    show 0 ≤ sqS f n + f n
    omega
theorem sqS_all0 {f : Nat → Int} : ∀ {n : Nat}, (∀ i, i < n → 0 ≤ f i) → sqS f n = 0 → ∀ i, i < n → f i = 0
  | 0, _, _, i, hi => absurd hi (by omega)
  | n + 1, h, h0, i, hi => by
    have h1 := sqS_nonneg (n := n) fun i hi => h i (by omega)
    have h2 := h n (by omega)
    have h3 : sqS f n + f n = 0 := h0
    by_cases e : i = n
    · subst e; omega
    · exact sqS_all0 (n := n) (fun i hi => h i (by omega)) (by omega) i (by omega)
theorem sq_nonneg9 (a : Int) : 0 ≤ a * a := by rw [← Int.natAbs_mul_self]; omega
theorem sq_zero9 {a : Int} (h : a * a = 0) : a = 0 := by rcases Int.mul_eq_zero.1 h with e | e <;> exact e
/-- A pattern behind n zeros, as a function. -/
def silF (ps : List Int) (n i : Nat) : Int := if n ≤ i then el ps (i - n) else 0
def silL (ps : List Int) (n : Nat) : List Int := List.replicate n 0 ++ ps ++ List.replicate 9 0
theorem silL_length (ps : List Int) (n : Nat) : (silL ps n).length = n + ps.length + 9 := by simp [silL]; omega
theorem silL_el (ps : List Int) (n i : Nat) : el (silL ps n) i = silF ps n i := by
  have e : ∀ (xs ys : List Int) (i : Nat), el (xs ++ ys) i = if i < xs.length then el xs i else el ys (i - xs.length) := fun xs ys i => by
    by_cases h : i < xs.length
    · rw [if_pos h]; simp [el, List.getElem?_append_left h]
    · rw [if_neg h]; simp [el, List.getElem?_append_right (show xs.length ≤ i by omega)]
  have z : ∀ m i, el (List.replicate m (0 : Int)) i = 0 := fun m i => by
    by_cases h : i < m <;> simp [el, h]
  unfold silL silF
  rw [e, e, z, z, List.length_append, List.length_replicate]
  by_cases h1 : n ≤ i
  · rw [if_pos h1]
    by_cases h2 : i < n + ps.length
    · rw [if_pos h2, if_neg (by omega)]
    · rw [if_neg h2, el_out (by omega)]
  · rw [if_neg h1, if_pos (by omega), if_pos (by omega)]
/-- The squares of a window are at most those of the pattern. -/
theorem sil_window (ps : List Int) {n q : Nat} : sqS (fun k => silF ps n (q + k) * silF ps n (q + k)) ps.length ≤ sqS (fun k => el ps k * el ps k) ps.length := by
  have hpos : ∀ i, 0 ≤ silF ps n i * silF ps n i := fun i => sq_nonneg9 _
  have h1 := sqS_split (fun i => silF ps n i * silF ps n i) q ps.length
  have h2 : sqS (fun i => silF ps n i * silF ps n i) (n + ps.length) = sqS (fun k => el ps k * el ps k) ps.length := by
    rw [sqS_split, sqS_zero (n := n) fun i hi => by rw [silF, if_neg (by omega)]; rfl, Int.zero_add]
    exact sqS_congr fun k _ => by rw [silF, if_pos (by omega), Nat.add_sub_cancel_left]
  have h3 : sqS (fun i => silF ps n i * silF ps n i) (q + ps.length) ≤ sqS (fun k => el ps k * el ps k) ps.length := by
    rw [← h2]
    rcases Nat.le_total (q + ps.length) (n + ps.length) with h | h
    · obtain ⟨d, hd⟩ := Nat.exists_eq_add_of_le h
      have hs := sqS_split (fun i => silF ps n i * silF ps n i) (q + ps.length) d
      rw [hd]
      have := sqS_nonneg (f := fun i => silF ps n (q + ps.length + i) * silF ps n (q + ps.length + i)) (n := d) fun i _ => hpos _
      omega
    · rw [sqS_tail h fun i hi => by rw [silF, if_pos (by omega), el_out (by omega)]; rfl]
      exact Int.le_refl _
  have h4 := sqS_nonneg (f := fun i => silF ps n i * silF ps n i) (n := q) fun i _ => hpos i
  omega
theorem sil_shift {ps : List Int} {n q : Nat} (hq : q ≠ n) (h : ∀ k, k < ps.length → silF ps n (q + k) = el ps k) : ∀ k, el ps k = 0 := by
  rcases Nat.lt_or_ge n q with hlt | hge
  · have down : ∀ d k, ps.length ≤ k + d → el ps k = 0 := fun d => by
      induction d using Nat.strongRecOn with
      | ind d ih =>
        intro k hk
        by_cases hkl : k < ps.length
        · rw [← h k hkl, silF, if_pos (by omega)]
          exact ih (d - 1) (by omega) (q + k - n) (by omega)
        · exact el_out (by omega)
    exact fun k => down ps.length k (by omega)
  · intro k
    induction k using Nat.strongRecOn with
    | ind k ih =>
      by_cases hkl : k < ps.length
      · rw [← h k hkl, silF]
        split
        · exact ih (q + k - n) (by omega)
        · rfl
      · exact el_out (by omega)
/-- The correlation of a pattern between zeros is greatest where it is, and nowhere else as great. -/
theorem sil_best {ps : List Int} {n q : Nat} (h0 : crS ps ps 0 ps.length ≠ 0) (hq : q ≠ n) : crS (silL ps n) ps q ps.length < crS (silL ps n) ps n ps.length := by
  have hA : crS (silL ps n) ps n ps.length = sqS (fun k => el ps k * el ps k) ps.length := sqS_congr fun k _ => by rw [silL_el, silF, if_pos (by omega), Nat.add_sub_cancel_left]
  have hS : crS ps ps 0 ps.length = sqS (fun k => el ps k * el ps k) ps.length := sqS_congr fun k _ => by rw [Nat.zero_add]
  have hC : crS (silL ps n) ps q ps.length = sqS (fun k => silF ps n (q + k) * el ps k) ps.length := sqS_congr fun k _ => by rw [silL_el]
  rw [hS] at h0
  rw [hA, hC]
  have hD := sqS_nonneg (f := fun k => (silF ps n (q + k) - el ps k) * (silF ps n (q + k) - el ps k)) (n := ps.length) fun k _ => sq_nonneg9 _
  have hE : sqS (fun k => (silF ps n (q + k) - el ps k) * (silF ps n (q + k) - el ps k)) ps.length = sqS (fun k => silF ps n (q + k) * silF ps n (q + k)) ps.length + (sqS (fun k => el ps k * el ps k) ps.length + -2 * sqS (fun k => silF ps n (q + k) * el ps k) ps.length) := by
    rw [← sqS_mul, ← sqS_add, ← sqS_add]
    refine sqS_congr fun k _ => ?_
    generalize silF ps n (q + k) = a
    generalize el ps k = b
    rw [Int.sub_mul, Int.mul_sub, Int.mul_sub, Int.mul_comm b a, Int.neg_mul]
    generalize a * a = x
    generalize a * b = y
    generalize b * b = z
    omega
  have hW := sil_window ps (n := n) (q := q)
  have hP := sqS_nonneg (f := fun k => el ps k * el ps k) (n := ps.length) fun k _ => sq_nonneg9 _
  have hne : sqS (fun k => (silF ps n (q + k) - el ps k) * (silF ps n (q + k) - el ps k)) ps.length ≠ 0 := fun e => by
    have hz := sqS_all0 (fun k _ => sq_nonneg9 _) e
    have hk := sil_shift hq fun k hk => by have := sq_zero9 (hz k hk); omega
    exact h0 (sqS_zero fun k _ => by rw [hk k]; rfl)
  omega
theorem sil_found {ps : List Int} {n : Nat} (h0 : crS ps ps 0 ps.length ≠ 0) : fpN (fun q => crS (silL ps n) ps q ps.length) ((silL ps n).length - ps.length) = n :=
  fpN_only (by rw [silL_length]; omega) fun q _ hq => sil_best h0 hq
end Go.Proofs.Ytgdfjbdpidileaa
