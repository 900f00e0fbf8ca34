/-
  What the laws of chapter 10 draw. No condition.
-/
import Derived.Test.YtenihedpbklmlaaSeqDraw
import Derived.Test.YtenihedpbklmlaaAppendA
namespace Go.Proofs.Ytenihedpbklmlaa
open Go.RowKit

/-- A drawn list in memory: at the beginning of a block, its numbers small. -/
def DrawnL (w : World) (b c : Nat) (xs : List Int) : Prop :=
  xs.length ≤ 300 ∧ (xs.length ≤ c ∧ c ≤ maxLen) ∧ (∀ x ∈ xs, sml x) ∧ Ints .i64 w w.heap.size (some ⟨b, 0, none⟩) xs
theorem drawnL_grow {w : World} {base b c : Nat} {xs : List Int} (h : Grow .i64 3 w base (some ⟨b, 0, none⟩) xs.length c xs) (hl : xs.length ≤ 300) (hs : ∀ x ∈ xs, sml x) : DrawnL w b c xs := ⟨hl, h.room, hs, h.ints⟩
/-- What drawing leaves: a list; two lists; lists and numbers. -/
def DrawP1 (w : World) (e : Ending) (w' : World) : Prop :=
  ∃ xs b c, e = .returned (.slice (some ⟨b, 0, none⟩) xs.length c) ∧ DrawnL w' b c xs ∧ Below w.heap.size w w'
def DrawP2 (w : World) (e : Ending) (w' : World) : Prop :=
  ∃ xs b c ys b' c', e = .returned (.tuple #[.slice (some ⟨b, 0, none⟩) xs.length c, .slice (some ⟨b', 0, none⟩) ys.length c']) ∧ DrawnL w' b c xs ∧ DrawnL w' b' c' ys ∧ Below w.heap.size w w'
def DrawP2S (w : World) (e : Ending) (w' : World) : Prop :=
  ∃ xs b c ys b' c', e = .returned (.tuple #[.slice (some ⟨b, 0, none⟩) xs.length c, .slice (some ⟨b', 0, none⟩) ys.length c']) ∧ DrawnL w' b c xs ∧ DrawnL w' b' c' ys ∧ Below w.heap.size w w' ∧ (ys.length ≤ 21 ∨ ys.length = 65)
def DrawP2I (w : World) (e : Ending) (w' : World) : Prop :=
  ∃ xs b c ys b' c' q, e = .returned (.tuple #[.slice (some ⟨b, 0, none⟩) xs.length c, .slice (some ⟨b', 0, none⟩) ys.length c', .int .i64 q]) ∧ (-1 ≤ q ∧ q ≤ 300) ∧ DrawnL w' b c xs ∧ DrawnL w' b' c' ys ∧ Below w.heap.size w w'
def DrawP1I (w : World) (e : Ending) (w' : World) : Prop :=
  ∃ xs b c q, e = .returned (.tuple #[.slice (some ⟨b, 0, none⟩) xs.length c, .int .i64 q]) ∧ (-1 ≤ q ∧ q ≤ 300) ∧ DrawnL w' b c xs ∧ Below w.heap.size w w'
def DrawP1II (w : World) (e : Ending) (w' : World) : Prop :=
  ∃ xs b c q r, e = .returned (.tuple #[.slice (some ⟨b, 0, none⟩) xs.length c, .int .i64 q, .int .i64 r]) ∧ (-1 ≤ q ∧ q ≤ 300) ∧ (-1 ≤ r ∧ r ≤ 300) ∧ DrawnL w' b c xs ∧ Below w.heap.size w w'
theorem Grow.under {k : IntKind} {t : TypeId} {w w' : World} {base n cap g B : Nat} {xs : List Int} (h : Grow k t w base (some ⟨g, 0, none⟩) n cap xs) (hb : Below B w w') (hlt : g < B) : Grow k t w' base (some ⟨g, 0, none⟩) n cap xs := by
  refine ⟨h.1, ?_⟩
  rcases h.2 with ⟨e, _⟩ | ⟨g', c, cur, e, hg, hh, rest⟩
  · injection e with e; cases e
  · have e0 := e
    injection e with e1
    injection e1 with e1
    injection e1 with e1
    subst e1
    exact .inr ⟨g, c, cur, e0, hg, (hb.block g hlt).trans hh, rest⟩
theorem Grow.blk {k : IntKind} {t : TypeId} {w : World} {base g n cap : Nat} {xs : List Int} (h : Grow k t w base (some ⟨g, 0, none⟩) n cap xs) : base ≤ g ∧ g < w.heap.size := World.ownsRow.lt h g rfl
theorem sml_app {xs ys : List Int} (h : ∀ y ∈ xs, sml y) (h2 : ∀ y ∈ ys, sml y) : ∀ y ∈ xs ++ ys, sml y := fun y hy => by
  rcases List.mem_append.1 hy with hy | hy
  · exact h y hy
  · exact h2 y hy
theorem sml_set {xs : List Int} {x : Int} {j : Nat} (h : ∀ y ∈ xs, sml y) (hx : sml x) : ∀ y ∈ xs.set j x, sml y := fun y hy => by
  rcases List.mem_or_eq_of_mem_set hy with hy | rfl
  · exact h y hy
  · exact hx
set_option maxRecDepth 10000 in
theorem grow_litQ (w : World) (base : Nat) (a : Int) (hb : base ≤ w.heap.size) : Grow .i64 3 (w.alloc (.cells #[.int .i64 a] 3)) base (some ⟨w.heap.size, 0, none⟩) 1 1 [a] :=
  ⟨rfl, .inr ⟨w.heap.size, 1, #[.int .i64 a], rfl, hb, heap_alloc_last _ _, Nat.le_refl _, by unfold maxLen; omega, rfl, rfl⟩⟩
end Go.Proofs.Ytenihedpbklmlaa
