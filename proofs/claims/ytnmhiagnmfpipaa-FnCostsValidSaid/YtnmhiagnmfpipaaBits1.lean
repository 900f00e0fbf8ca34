/-
  What the small functions of chapter 1 and of its model answer. No condition but that a list is no longer than a list can be.
-/
import Derived.Test.YtnmhiagnmfpipaaBase
namespace Go.Proofs.Ytnmhiagnmfpipaa
open Go.RowKit

set_option maxRecDepth 10000 in
theorem l1In_any (n lo hi : Int) (w : World) :
    Calls Try.prog 45 #[.int .i64 n, .int .i64 lo, .int .i64 hi] w fun e w' => e = .returned (.bool (decide (lo ≤ n) && decide (n ≤ hi))) ∧ w = w' := by
  by_cases h1 : lo ≤ n <;> by_cases h2 : n ≤ hi
  all_goals
    go_enter Try.func45, Try.ntmps45
    go_wp2
    go_ret
    exact ⟨by simp [*], rfl⟩

/-- The numbers 0 and 1. -/
def isBit (n : Int) : Bool := n == 0 || n == 1
def bitsOk (xs : List Int) : Bool := decide (xs.length ≤ 1024) && xs.all isBit
theorem isBit_in (n : Int) : (decide (0 ≤ n) && decide (n ≤ 1)) = isBit n := by
  unfold isBit; rw [Bool.eq_iff_iff]; simp; omega
set_option maxRecDepth 10000 in
theorem l1In_bit (n : Int) (w : World) (b : Bool) (h : isBit n = b) :
    Calls Try.prog 45 #[.int .i64 n, .int .i64 0, .int .i64 1] w fun e w' => e = .returned (.bool b) ∧ w = w' := by
  subst h; rw [← isBit_in]; exact l1In_any n 0 1 w
theorem all_take_succ (p : Int → Bool) (xs : List Int) (k : Nat) (hk : k < xs.length) (h : (xs.take k).all p = true) (h1 : p (el xs k) = true) : (xs.take (k + 1)).all p = true := by
  rw [take_el hk, List.all_append, h]
  simpa using h1
theorem all_false (p : Int → Bool) (xs : List Int) (k : Nat) (hk : k < xs.length) (h1 : p (el xs k) = false) : xs.all p = false := by
  rw [List.all_eq_false]
  exact ⟨_, el_mem hk, by simp [h1]⟩

end Go.Proofs.Ytnmhiagnmfpipaa
