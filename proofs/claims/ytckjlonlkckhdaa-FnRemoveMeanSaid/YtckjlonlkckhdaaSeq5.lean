/-
  What UndoFilter and its model answer, for every list and filter. Condition: the lists can be read; the model: the lengths can be.
-/
import Derived.Test.YtckjlonlkckhdaaSeq4
namespace Go.Proofs.Ytckjlonlkckhdaa
open Go.RowKit

/-- What UndoFilter leaves. -/
def UndP (xs fs : List Int) (w : World) (e : Ending) (w' : World) : Prop :=
  ∃ a cap, e = .returned (.tuple #[.slice a (undL xs fs).length cap, .bool (undB xs fs)]) ∧ ((undL xs fs).length ≤ cap ∧ cap ≤ maxLen) ∧ OwnInts .i64 3 w' w.heap.size a (undL xs fs) ∧ Below w.heap.size w w'
theorem undP_no {xs fs : List Int} {w w' : World} (h : undB xs fs = false ∧ undL xs fs = []) (hb : Below w.heap.size w w') : UndP xs fs w (.returned (.tuple #[.slice none 0 0, .bool false])) w' := by
  unfold UndP
  rw [h.1, h.2]
  exact ⟨none, 0, rfl, ⟨Nat.le_refl _, Nat.zero_le _⟩, fun h => absurd rfl h, hb⟩
theorem undP_of {xs fs ys : List Int} {w w' : World} {a : Option Addr} {n cap : Nat} {r : Bool} (h : undB xs fs = r ∧ undL xs fs = ys) (hp : ListPostC ys w (.returned (.slice a n cap)) w') : UndP xs fs w (.returned (.tuple #[.slice a n cap, .bool r])) w' := by
  obtain ⟨a', cap', e, h1, h2, h3⟩ := hp
  injection e with e
  injection e with e1 e2 e3
  subst e1 e2 e3
  unfold UndP
  rw [h.1, h.2]
  exact ⟨a, cap, rfl, h1, h2, h3⟩
/-- A row that is being filled: the first k numbers lie in it, the others are 0. -/
def undX (xs fs : List Int) (k j : Nat) : Int := el (und xs fs k) j
theorem row_und {w : World} {b : Nat} {t : TypeId} {n k : Nat} {xs fs : List Int} {v : Int} (hv : v = el (und xs fs (k + 1)) k) (h : w.rowIs b t n fun j => .int .i64 (undX xs fs k j)) :
    (w.setCell ⟨b, k, none⟩ (.int .i64 v)).rowIs b t n fun j => .int .i64 (undX xs fs (k + 1) j) :=
  (h.set k (.int .i64 v)).congr fun j _ => by
    unfold undX
    by_cases e : j = k
    · subst e; simp [hv]
    · simp only [e, if_false]
      by_cases h2 : j < k
      · rw [und_app xs fs h2 (Nat.le_succ k)]
      · rw [el_out (xs := und xs fs (k + 1)) (by rw [und_length]; omega), el_out (xs := und xs fs k) (by rw [und_length]; omega)]
/-- The numbers of one product. -/
theorem und_nums {xs fs : List Int} (h1 : seqOk xs = true) (h2 : seqOk fs = true) {k t : Nat} (h : seqTo (und xs fs k) k) (ht : t + 1 ≤ k) (hk : k ≤ 64) : ∃ p s u z v : Int, p = el fs (t + 1) ∧ s = el (und xs fs k) (k - (t + 1)) ∧ u = p * s ∧ z = undN xs fs k t ∧ v = z - u ∧ v = undN xs fs k (t + 1) ∧
    (-1000000000000 ≤ u ∧ u ≤ 1000000000000) ∧ (-1000000000000 ≤ v ∧ v ≤ 1000000000000) := by
  have a1 := prod_in (seqOk_in h2 (t + 1)) (seqIn_yes (h (k - (t + 1)) (by omega)))
  have a2 := undN_in (i := t + 1) h1 h2 h ht hk
  have e := undN_step xs fs k t
  exact ⟨_, _, _, _, _, rfl, rfl, rfl, rfl, rfl, e.symm, by omega, by omega⟩
end Go.Proofs.Ytckjlonlkckhdaa
