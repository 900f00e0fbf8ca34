/-
  Lists near to each other: one number changed, the numbers of errors of neighbours, lists of ones; lists of a call's own that are changed in place. Condition: bits, where a lemma says so.
-/
import Derived.Test.YtnjjblcigcblhaaDoorStr5
namespace Go.Proofs.YtnjjblcigcblhaaDoor
open Go.RowKit

theorem dist_set1 : ∀ (xs : List Int) (i : Nat) (v : Int), dist xs (xs.set i v) ≤ 1
  | [], i, v => by simp [dist_self]
  | x :: xs, 0, v => by
    rw [List.set_cons_zero, dist_cons, dist_self]
    cases (decide (x = 1) != decide (v = 1)) <;> decide
  | x :: xs, i + 1, v => by
    have ih := dist_set1 xs i v
    rw [List.set_cons_succ, dist_cons]
    have : (decide (x = 1) != decide (x = 1)).toNat = 0 := by simp
    omega
theorem dist_set {xs ys : List Int} (hl : xs.length = ys.length) (i : Nat) (v : Int) : dist xs (ys.set i v) ≤ dist xs ys + 1 := by
  have t := dist_triangle (xs := xs) (ys := ys.set i v) (zs := ys) (by simp [hl]) hl
  have := dist_set1 ys i v
  omega
theorem set_bits7 {xs : List Int} (hb : xs.all isBit = true) (i : Nat) {v : Int} (hv : isBit v = true) : (xs.set i v).all isBit = true := by
  rw [List.all_eq_true] at hb ⊢
  intro y hy
  rcases List.mem_or_eq_of_mem_set hy with hy | rfl
  · exact hb y hy
  · exact hv
theorem flip_bit {x : Int} (h : isBit x = true) : isBit (1 - x) = true := by rcases isBit_cases h with rfl | rfl <;> rfl
theorem codedOk_set {xs : List Int} (h : codedOk xs = true) (i : Nat) {v : Int} (hv : isBit v = true) : codedOk (xs.set i v) = true := by
  obtain ⟨h1, h2, h3, h4⟩ := codedOk_parts h
  exact codedOk_mk (by simpa using h1) (by simpa using h2) (by simpa using h3) (set_bits7 h4 i hv)
/-- One number changed changes the number of errors by one at most. -/
theorem err_next {xs ys : List Int} (hx : codedOk xs = true) (hy : codedOk ys = true) (hl : xs.length = ys.length) (hd : dist xs ys ≤ 1) : errS (prs ys) ≤ errS (prs xs) + 1 := by
  have p := codedOk_parts hx
  have h1 := err_least (decL7_bits xs) hy (by rw [decL7_length]; omega)
  have t := dist_triangle (xs := codeL (decL7 xs)) (ys := ys) (zs := xs) (by rw [codeL_length, decL7_length]; omega) (by rw [codeL_length, decL7_length]; omega)
  rw [dec_dist hx] at t
  omega
theorem dist_symm {xs ys : List Int} (hl : xs.length = ys.length) : dist ys xs = dist xs ys := dist_comm hl
/-- The ones among the first k numbers. -/
def onesK (xs : List Int) (k : Nat) : Nat := cnt (fun j => decide (el xs j = 1)) k
theorem onesK_next {xs : List Int} (h : xs.all isBit = true) {k : Nat} (hk : k < xs.length) : (onesK xs (k + 1) : Int) = (onesK xs k : Int) + el xs k := by
  unfold onesK
  rw [cnt]
  rcases isBit_cases (List.all_eq_true.1 h _ (el_mem hk)) with e | e <;> simp [e]
theorem onesK_le (xs : List Int) (k : Nat) : onesK xs k ≤ k := cnt_le _ _
theorem enc_zero : ∀ n, sEnc 0 0 (List.replicate n 0) = List.replicate n (0, 0)
  | 0 => rfl
  | n + 1 => by rw [List.replicate_succ, sEnc, enc_zero n]; rfl
theorem rep_zero (n k : Nat) : (List.replicate n ((0, 0) : Nat × Nat)).getD k (0, 0) = (0, 0) := by
  rw [List.getD_eq_getElem?_getD, List.getElem?_replicate]
  split <;> rfl
theorem code_zeros (n : Nat) : ∀ j, el (codeL (zeros n)) j = 0 := by
  have e : tailed (zeros n) = List.replicate (n + 2) 0 := by
    unfold tailed zeros nats
    rw [List.map_replicate]
    show List.replicate n 0 ++ List.replicate 2 0 = _
    rw [List.replicate_append_replicate]
  intro j
  unfold codeL
  rw [e, enc_zero]
  rcases Nat.mod_two_eq_zero_or_one j with h | h
  · have := (flat_el (List.replicate (n + 2) (0, 0)) (j / 2)).1
    rw [show 2 * (j / 2) = j by omega] at this
    rw [this, rep_zero]; rfl
  · have := (flat_el (List.replicate (n + 2) (0, 0)) (j / 2)).2
    rw [show 2 * (j / 2) + 1 = j by omega] at this
    rw [this, rep_zero]; rfl
theorem err_ones {xs : List Int} (h : codedOk xs = true) : errS (prs xs) ≤ onesK xs xs.length := by
  have p := codedOk_parts h
  have hz : (zeros (xs.length / 2 - 2)).all isBit = true := (bitsOk_parts (zeros_ok (n := xs.length / 2 - 2) (by omega))).2
  have h1 := err_least hz h (by rw [zeros_length]; omega)
  have hl : (codeL (zeros (xs.length / 2 - 2))).length = xs.length := by rw [codeL_length, zeros_length]; omega
  have : dist (codeL (zeros (xs.length / 2 - 2))) xs = onesK xs xs.length := by
    unfold dist onesK
    rw [hl]
    exact cnt_congr fun i hi => by
      rw [xorF_at (by omega), code_zeros]
      simp
  omega
theorem err_none {xs : List Int} (h : codedOk xs = true) : errS (prs xs) = 0 ↔ codeL (decL7 xs) = xs := by
  have p := codedOk_parts h
  rw [← dec_dist h]
  exact dist_zero (pair_code (dec_ok h) h (by rw [decL7_length]; omega))
/-- A list of the call's own: its cells, and one of them set. -/
theorem Own.cellAt {t : TypeId} {w : World} {B C b i : Nat} {xs : List Int} (h : Own .i64 t w B C (some ⟨b, 0, none⟩) xs) (hi : i < xs.length) : w.cell? ⟨b, i, none⟩ = some (.int .i64 (el xs i)) ∧ w.frozen? ⟨b, i, none⟩ = false ∧ B ≤ b ∧ b < C := by
  obtain ⟨b', cap, f, e, h1, h2, h3, h4, h5⟩ := h (by intro e; rw [e] at hi; simp at hi)
  injection e with e
  injection e with e
  subst e
  exact ⟨by rw [h4.cell (by omega), h5 i hi], h4.frozen i, h1, h2⟩
theorem Own.setAt {t : TypeId} {w : World} {B C b i : Nat} {xs : List Int} (v : Int) (h : Own .i64 t w B C (some ⟨b, 0, none⟩) xs) (hi : i < xs.length) : Own .i64 t (w.setCell ⟨b, i, none⟩ (.int .i64 v)) B C (some ⟨b, 0, none⟩) (xs.set i v) := fun _ => by
  obtain ⟨b', cap, f, e, h1, h2, h3, h4, h5⟩ := h (by intro e; rw [e] at hi; simp at hi)
  injection e with e
  injection e with e
  subst e
  refine ⟨b, cap, fun j => if j = i then .int .i64 v else f j, rfl, h1, h2, by simpa using h3, (h4.set i (.int .i64 v)).congr (fun j _ => rfl), fun j hj => ?_⟩
  have hj' : j < xs.length := by simpa using hj
  by_cases e : j = i
  · subst e
    simp [el, hj']
  · simp only [e, if_false]
    rw [h5 j hj']
    simp [el, Ne.symm e]
theorem Own.block {t : TypeId} {w : World} {B C : Nat} {a : Option Addr} {xs : List Int} (h : Own .i64 t w B C a xs) (hp : 0 < xs.length) : ∃ b, a = some ⟨b, 0, none⟩ ∧ B ≤ b ∧ b < C := by
  obtain ⟨b, cap, f, e, h1, h2, _⟩ := h (by intro e; rw [e] at hp; simp at hp)
  exact ⟨b, e, h1, h2⟩
end Go.Proofs.YtnjjblcigcblhaaDoor
