/-
  What the search for the errors of four syndromes answers. Conditions: the program's two tables of the field lie in their variables; numbers below 16.
-/
import Derived.Test.YtkeeijkjemcbcaaWrd2
import Derived.Deep.RegionHeld3
namespace Go.Proofs.Ytkeeijkjemcbcaa
open Go.RowKit

theorem errsPost_two' {w W : World} {X v Y u : Nat} {t : TypeId} (hb : Below w.heap.size w (W.alloc (.cells #[.int .i64 X, .int .i64 v, .int .i64 Y, .int .i64 u] t))) :
    ErrsPost (some [(X, v), (Y, u)]) w (.returned (.tuple #[.slice (some ⟨W.heap.size, 0, none⟩) 2 2, .bool true])) (W.alloc (.cells #[.int .i64 X, .int .i64 v, .int .i64 Y, .int .i64 u] t)) :=
  ⟨⟨_, _, rfl, by simp, cell_of_row _ _ 0 _ _ _ (heap_alloc_last _ _), cell_of_row _ _ 1 _ _ _ (heap_alloc_last _ _), cell_of_row _ _ 2 _ _ _ (heap_alloc_last _ _), cell_of_row _ _ 3 _ _ _ (heap_alloc_last _ _)⟩, hb⟩
theorem zero4_yes {a b c d : Nat} (h : zero4 a b c d = true) : a = 0 ∧ b = 0 ∧ c = 0 ∧ d = 0 := of_decide_eq_true h
theorem zero4_no {a b c d : Nat} (h : zero4 a b c d = false) : ¬ (a = 0 ∧ b = 0 ∧ c = 0 ∧ d = 0) := of_decide_eq_false h
theorem errs6_no {a b c d D : Nat} (h : zero4 a b c d = false) (hD : D = fmul b b ^^^ fmul a c) :
    errs6 a b c d = if D = 0 then one6 a b c d else two6 a b (locs6 (fmul (fmul b c ^^^ fmul a d) (finv D)) (fmul (fmul c c ^^^ fmul b d) (finv D)) 15 1) := by
  rw [errs6, if_neg (zero4_no h), hD]; rfl
theorem one6_cases (a b c d : Nat) : one6 a b c d = none ∨ ∃ X v, one6 a b c d = some [(X, v)] := by
  unfold one6
  split
  · exact .inl rfl
  · split
    · exact .inr ⟨_, _, rfl⟩
    · exact .inl rfl
theorem ErrsPost.back {o : Option (List (Nat × Nat))} {w W w' : World} {e : Ending} (h : ErrsAt w' e o) (hb : Below W.heap.size W w') (hw : Below w.heap.size w W) : ErrsPost o w e w' :=
  ⟨h, hw.trans (hb.mono hw.size)⟩
end Go.Proofs.Ytkeeijkjemcbcaa
