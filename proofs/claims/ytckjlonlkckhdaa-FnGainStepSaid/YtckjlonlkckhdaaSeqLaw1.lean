/-
  The laws of UndoFilter, walked: they return true for every code, and write into nothing that was there. No condition.
-/
import Derived.Test.YtckjlonlkckhdaaSeqDraw2
import Derived.Test.YtckjlonlkckhdaaSeq5
import Derived.Test.YtckjlonlkckhdaaLaw1
namespace Go.Proofs.Ytckjlonlkckhdaa
open Go.RowKit

theorem undB_parts {xs fs : List Int} (h : undB xs fs = true) : seqOk xs = true ∧ seqOk fs = true ∧ 0 < fs.length ∧ el fs 0 = 1 ∧ seqTo (und xs fs xs.length) xs.length ∧ undL xs fs = und xs fs xs.length := by
  have e : undL xs fs = und xs fs xs.length := by simp [undL, h]
  simp only [undB, Bool.and_eq_true, decide_eq_true_eq, List.all_eq_true, List.mem_range] at h
  exact ⟨h.1.1.1.1, h.1.1.1.2, h.1.1.2, h.1.2, fun i hi => h.2 i hi, e⟩
theorem undL_off {xs fs : List Int} (h : undB xs fs = false) : undL xs fs = [] := by simp [undL, h]
/-- What is undone, filtered again. -/
theorem undo_facts {xs fs : List Int} (h : undB xs fs = true) (h0 : 0 < xs.length) : (undL xs fs).length = xs.length ∧ xs.length ≤ (fltOr (undL xs fs) fs).length ∧ (fltOr (undL xs fs) fs).take xs.length = xs := by
  obtain ⟨h1, h2, h3, h4, h5, e⟩ := undB_parts h
  have hl := und_length xs fs xs.length
  have hs : seqOk (und xs fs xs.length) = true := seqOk_good (by rw [hl]; exact h5) (by rw [hl]; exact seqOk_len h1)
  rw [e, fltOr_yes hs h2 (by rw [hl]; exact h0) h3]
  refine ⟨hl, by rw [cvL_length, hl]; omega, ?_⟩
  have hlen : ((cvL (und xs fs xs.length) fs).take xs.length).length = xs.length := by rw [List.length_take, cvL_length, hl]; omega
  refine list_ext9 hlen fun k hk => ?_
  rw [hlen] at hk
  have e2 : el ((cvL (und xs fs xs.length) fs).take xs.length) k = el (cvL (und xs fs xs.length) fs) k := by simp [el, hk]
  rw [e2, cvL_el (by rw [hl]; exact h0), und_cv h4 hk]
/-- What is filtered, undone. -/
theorem undo_exact {xs fs : List Int} (h1 : seqOk xs = true) (h2 : seqOk fs = true) (h3 : 0 < xs.length) (h4 : 0 < fs.length) (h5 : el fs 0 = 1) (h6 : seqOk ((fltOr xs fs).take xs.length) = true) :
    undB ((fltOr xs fs).take xs.length) fs = true ∧ undL ((fltOr xs fs).take xs.length) fs = xs := by
  rw [fltOr_yes h1 h2 h3 h4] at h6 ⊢
  have hlen : ((cvL xs fs).take xs.length).length = xs.length := by rw [List.length_take, cvL_length]; omega
  have hu := und_uniq (xs := (cvL xs fs).take xs.length) (ys := xs) h5 xs.length fun k hk => by
    rw [← cvL_el h3]
    simp [el, hk]
  have hb := undB_yes h6 h2 h4 h5 (fun i hi => by
    rw [hlen] at hi ⊢
    rw [hu i hi]
    simp only [seqOk, Bool.and_eq_true, List.all_eq_true] at h1
    exact h1.2 _ (el_mem hi))
  refine ⟨hb.1, hb.2.trans ?_⟩
  rw [hlen]
  exact list_ext9 (und_length _ _ _) fun k hk => by
    rw [und_length] at hk
    exact hu k hk
theorem fltOr_pos {xs ys : List Int} (h : (fltOr xs ys).length ≠ 0) : seqOk xs = true ∧ seqOk ys = true ∧ 0 < xs.length ∧ 0 < ys.length := by
  by_cases hc : seqOk xs = true ∧ seqOk ys = true ∧ 0 < xs.length ∧ 0 < ys.length
  · exact hc
  · rw [fltOr_no hc] at h; exact absurd rfl h
theorem fltOr_len {xs ys : List Int} (h : (fltOr xs ys).length ≠ 0) : (fltOr xs ys).length = xs.length + ys.length - 1 := by
  obtain ⟨h1, h2, h3, h4⟩ := fltOr_pos h
  rw [fltOr_yes h1 h2 h3 h4, cvL_length]
theorem own_at {xs : List Int} {w' : World} {B : Nat} {a : Option Addr} (h : OwnInts .i64 3 w' B a xs) (hx : 0 < xs.length) : ∃ b, a = some ⟨b, 0, none⟩ := by
  obtain ⟨b, _, e, _⟩ := h (List.length_pos_iff.1 hx)
  exact ⟨b, e⟩

end Go.Proofs.Ytckjlonlkckhdaa
