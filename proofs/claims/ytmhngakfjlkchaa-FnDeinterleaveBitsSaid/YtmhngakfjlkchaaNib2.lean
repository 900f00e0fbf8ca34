/-
  What EncodeNibble, SyndromeOf, DecodeNibble and the test of blocks answer, for every list. Conditions: the program's two tables lie in their variables, where a word is looked up.
-/
import Derived.Test.YtmhngakfjlkchaaNib
import Derived.Lib.LaidTab
namespace Go.Proofs.Ytmhngakfjlkchaa
open Go.RowKit

/-- What SyndromeOf answers. -/
def synOr (xs : List Int) : Int := if wordOk xs then (syn xs : Int) else -1
/-- What DecodeNibble answers. -/
def decOr (xs : List Int) : List Int := if wordOk xs then decW xs else []
def fixOr (xs : List Int) : Bool := wordOk xs && decide (syn xs ≠ 0)
def DecPost (xs : List Int) (w : World) (e : Ending) (w' : World) : Prop :=
  ∃ a cap, e = .returned (.tuple #[.slice a (decOr xs).length cap, .bool (fixOr xs)]) ∧ ((decOr xs).length ≤ cap ∧ cap ≤ maxLen) ∧ OwnInts .i64 3 w' w.heap.size a (decOr xs) ∧ Below w.heap.size w w'
theorem decPost_no {xs : List Int} {w w' : World} (h : wordOk xs = false) (hb : Below w.heap.size w w') : DecPost xs w (.returned (.tuple #[.slice none 0 0, .bool false])) w' := by
  have h1 : decOr xs = [] := by simp [decOr, h]
  have h2 : fixOr xs = false := by simp [fixOr, h]
  unfold DecPost
  rw [h1, h2]
  exact ⟨none, 0, rfl, ⟨Nat.le_refl _, Nat.zero_le _⟩, fun h => absurd rfl h, hb⟩
end Go.Proofs.Ytmhngakfjlkchaa
