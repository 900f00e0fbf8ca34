/-
  What Equal, Grow and Concat of the library's package slices answer for lists of integers. Conditions: at most 2^20 numbers; Grow from nil; Concat of two lists that are not both empty.
-/
import Derived.Test.YtgdfjbdpidileaaAppendA
import Derived.Test.YtgdfjbdpidileaaImpl2
import Derived.Test.YtgdfjbdpidileaaOne
import Derived.Outline
namespace Go.Proofs.Ytgdfjbdpidileaa
open Go.RowKit

def GrowPost (w : World) (e : Ending) (w' : World) : Prop :=
  ∃ a cap, e = .returned (.slice a 0 cap) ∧ Grow .i64 3 w' w.heap.size a 0 cap [] ∧ Below w.heap.size w w'
theorem grow_cut {w : World} {base n cap : Nat} {a : Option Addr} {xs : List Int} (h : Grow .i64 3 w base a n cap xs) (ha : a ≠ none) : Grow .i64 3 w base a 0 cap [] := by
  rcases h.2 with ⟨e, h0⟩ | ⟨g, cp, cur, e, hg, hh, hnc, hcm, hcs, _⟩
  · injection e with e1; exact absurd e1 ha
  · injection e with e1 _ e3
    subst e1 e3
    exact ⟨rfl, .inr ⟨g, cap, cur, rfl, hg, hh, Nat.zero_le _, hcm, hcs, by simp⟩⟩
end Go.Proofs.Ytgdfjbdpidileaa
