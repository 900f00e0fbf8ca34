/-
  What the small functions of chapter 1 and of its model answer. No condition but that a list is no longer than a list can be.
-/
import Derived.Test.YtibgpgifdjefnaaDoorBase
namespace Go.Proofs.YtibgpgifdjefnaaDoor
open Go.RowKit

/-- The numbers 0 and 1. -/
def isBit (n : Int) : Bool := n == 0 || n == 1
def bitsOk (xs : List Int) : Bool := decide (xs.length ≤ 1024) && xs.all isBit
theorem isBit_in (n : Int) : (decide (0 ≤ n) && decide (n ≤ 1)) = isBit n := by
  unfold isBit; rw [Bool.eq_iff_iff]; simp; omega
theorem all_take_succ (p : Int → Bool) (xs : List Int) (k : Nat) (hk : k < xs.length) (h : (xs.take k).all p = true) (h1 : p (el xs k) = true) : (xs.take (k + 1)).all p = true := by
  rw [take_el hk, List.all_append, h]
  simpa using h1
theorem all_false (p : Int → Bool) (xs : List Int) (k : Nat) (hk : k < xs.length) (h1 : p (el xs k) = false) : xs.all p = false := by
  rw [List.all_eq_false]
  exact ⟨_, el_mem hk, by simp [h1]⟩

end Go.Proofs.YtibgpgifdjefnaaDoor
