/-
  What the decoder's functions of four syndromes answer: the value of an error, the search for two locators, one error, the errors. Conditions: the program's two tables of the field lie in their variables; numbers below 16.
-/
import Derived.Test.YtkeeijkjemcbcaaWrd1
import Derived.OwnWalk
namespace Go.Proofs.Ytkeeijkjemcbcaa
open Go.RowKit

/-- Four numbers by value. -/
def arr4 (a b c d : Nat) : Value := .agg #[.int .i64 a, .int .i64 b, .int .i64 c, .int .i64 d]
theorem below_alloc (w : World) (o : Obj) : Below w.heap.size w (w.alloc o) := (Below.refl _ _).alloc (Nat.le_refl _) o
/-- What the search for two locators answers. -/
def locV : Option (Nat × Nat) → Value
  | none => .tuple #[.int .i64 0, .int .i64 0, .bool false]
  | some (a, b) => .tuple #[.int .i64 a, .int .i64 b, .bool true]
theorem locs6_step {s p k : Nat} (hk : k < 16) : locs6 s p (16 - k) k = if k < (k ^^^ s) ∧ fmul k (k ^^^ s) = p then some (k, k ^^^ s) else locs6 s p (16 - (k + 1)) (k + 1) := by
  rw [show 16 - k = (16 - (k + 1)) + 1 by omega, locs6]
/-- What the search for errors leaves. -/
def ErrsAt (w : World) (e : Ending) : Option (List (Nat × Nat)) → Prop
  | none => e = .returned (.tuple #[.slice none 0 0, .bool false])
  | some [] => e = .returned (.tuple #[.slice none 0 0, .bool true])
  | some [(X, v)] => ∃ b c, e = .returned (.tuple #[.slice (some ⟨b, 0, none⟩) 1 c, .bool true]) ∧ b < w.heap.size ∧ w.cell? ⟨b, 0, none⟩ = some (.int .i64 X) ∧ w.cell? ⟨b, 1, none⟩ = some (.int .i64 v)
  | some [(X, v), (Y, u)] => ∃ b c, e = .returned (.tuple #[.slice (some ⟨b, 0, none⟩) 2 c, .bool true]) ∧ b < w.heap.size ∧ w.cell? ⟨b, 0, none⟩ = some (.int .i64 X) ∧ w.cell? ⟨b, 1, none⟩ = some (.int .i64 v) ∧
      w.cell? ⟨b, 2, none⟩ = some (.int .i64 Y) ∧ w.cell? ⟨b, 3, none⟩ = some (.int .i64 u)
  | _ => False
def ErrsPost (o : Option (List (Nat × Nat))) (w : World) (e : Ending) (w' : World) : Prop := ErrsAt w' e o ∧ Below w.heap.size w w'
/-- Four numbers lie at the beginning of a block. -/
def Box4 (w : World) (b s0 s1 s2 s3 : Nat) : Prop := b < w.heap.size ∧ w.cell? ⟨b, 0, none⟩ = some (.int .i64 s0) ∧ w.cell? ⟨b, 1, none⟩ = some (.int .i64 s1) ∧ w.cell? ⟨b, 2, none⟩ = some (.int .i64 s2) ∧ w.cell? ⟨b, 3, none⟩ = some (.int .i64 s3)
theorem box4_new (w : World) (s0 s1 s2 s3 : Nat) (t : TypeId) : Box4 (w.alloc (.cells #[.int .i64 s0, .int .i64 s1, .int .i64 s2, .int .i64 s3] t)) w.heap.size s0 s1 s2 s3 :=
  ⟨by simp, cell_of_row _ _ 0 _ _ _ (heap_alloc_last _ _), cell_of_row _ _ 1 _ _ _ (heap_alloc_last _ _), cell_of_row _ _ 2 _ _ _ (heap_alloc_last _ _), cell_of_row _ _ 3 _ _ _ (heap_alloc_last _ _)⟩
theorem Box4.next {w w' : World} {b s0 s1 s2 s3 : Nat} (h : Box4 w b s0 s1 s2 s3) (hb : Below w.heap.size w w') : Box4 w' b s0 s1 s2 s3 :=
  ⟨Nat.lt_of_lt_of_le h.1 hb.size, (hb.cell h.1).trans h.2.1, (hb.cell h.1).trans h.2.2.1, (hb.cell h.1).trans h.2.2.2.1, (hb.cell h.1).trans h.2.2.2.2⟩
theorem errsPost_one {w W : World} {X v : Nat} {t : TypeId} (hb : Below w.heap.size w W) :
    ErrsPost (some [(X, v)]) w (.returned (.tuple #[.slice (some ⟨W.heap.size, 0, none⟩) 1 1, .bool true])) (W.alloc (.cells #[.int .i64 X, .int .i64 v] t)) :=
  ⟨⟨_, _, rfl, by simp, cell_of_row _ _ 0 _ _ _ (heap_alloc_last _ _), cell_of_row _ _ 1 _ _ _ (heap_alloc_last _ _)⟩, hb.alloc hb.size _⟩
/-- Whether four numbers are all 0. -/
def zero4 (a b c d : Nat) : Bool := decide (a = 0 ∧ b = 0 ∧ c = 0 ∧ d = 0)
end Go.Proofs.Ytkeeijkjemcbcaa
