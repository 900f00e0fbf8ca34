/-
  The laws of SequenceValid, CorrelateAt and FindPattern, walked: they return true for every code, and write into nothing that was there. No condition.
-/
import Derived.Test.YtckjlonlkckhdaaSeqLaw2
namespace Go.Proofs.Ytckjlonlkckhdaa
open Go.RowKit

/-- The first k numbers, negated. -/
def negL (xs : List Int) (k : Nat) : List Int := (List.range k).map fun i => -(el xs i)
theorem negL_length (xs : List Int) (k : Nat) : (negL xs k).length = k := by simp [negL]
theorem negL_snoc (xs : List Int) (k : Nat) : negL xs (k + 1) = negL xs k ++ [-(el xs k)] := by simp [negL, List.range_succ]
theorem seqIn_neg (x : Int) : seqIn (-x) = seqIn x := by
  unfold seqIn
  rw [Bool.eq_iff_iff]
  simp only [Bool.and_eq_true, decide_eq_true_eq]
  omega
theorem negL_ok (xs : List Int) : seqOk (negL xs xs.length) = seqOk xs := by
  unfold seqOk
  rw [negL_length]
  congr 1
  rw [Bool.eq_iff_iff, List.all_eq_true, List.all_eq_true]
  constructor
  · intro h x hx
    obtain ⟨i, hi, rfl⟩ := List.getElem_of_mem hx
    have := h (-(el xs i)) (List.mem_map.2 ⟨i, List.mem_range.2 hi, rfl⟩)
    rw [seqIn_neg, el_lt hi] at this
    exact this
  · intro h x hx
    obtain ⟨i, hi, rfl⟩ := List.mem_map.1 hx
    rw [seqIn_neg]
    exact h _ (el_mem (List.mem_range.1 hi))
theorem seqOk_1001 : seqOk [1001] = false := by decide

theorem seqV_is (a : Option Addr) (c B : Nat) (xs : List Int) (w : World) (b : Bool) (hx : Ints .i64 w B a xs) (h : seqOk xs = b) :
    Calls Try.prog 24 #[.slice a xs.length c] w fun e w' => e = .returned (.bool b) ∧ w = w' := by
  subst h; exact sequenceValid_any a c B xs w hx
/-- No place is better, and none before it as good. -/
theorem fp_facts {xs ps : List Int} (h1 : seqOk xs = true) (h2 : seqOk ps = true) (h3 : 0 < ps.length) (h4 : ps.length ≤ xs.length) : ∃ g : Nat, fpOr xs ps = (g : Int) ∧ g + ps.length ≤ xs.length ∧
    (∀ k, k + ps.length ≤ xs.length → cS xs ps k ≤ cS xs ps g) ∧ ∀ k, k < g → cS xs ps k < cS xs ps g := by
  have hb := fpN_best (cS xs ps) (xs.length - ps.length)
  have hle := fpN_le (cS xs ps) (xs.length - ps.length)
  exact ⟨fpN (cS xs ps) (xs.length - ps.length), fpOr_yes h1 h2 h3 h4, by omega, fun k hk => hb.1 k (by omega), hb.2⟩
end Go.Proofs.Ytckjlonlkckhdaa
