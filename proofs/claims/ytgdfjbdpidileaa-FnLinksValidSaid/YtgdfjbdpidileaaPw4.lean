/-
  What PowerStep and LeastPowers answer. Condition: rows and lists can be read.
-/
import Derived.Test.YtgdfjbdpidileaaPw3
namespace Go.Proofs.Ytgdfjbdpidileaa
open Go.RowKit

theorem zeros_rep (n : Nat) (F : Nat → Int) : mkX F n 0 = List.replicate n 0 := mkX_start F n
/-- LeastPowers' answer. -/
def LpPost (R : List (List Int)) (N T : Int) (w : World) (e : Ending) (w' : World) : Prop :=
  ∃ v c, e = .returned (.tuple #[.slice v (lpL R N T).length c, .bool (decide (MtOk R N T (lpL R N T)))]) ∧ ((lpL R N T).length ≤ c ∧ c ≤ maxLen) ∧ OwnInts .i64 3 w' w.heap.size v (lpL R N T) ∧ Below w.heap.size w w'
theorem lpPost_of {R : List (List Int)} {N T : Int} {w w' : World} {v : Option Addr} {n c : Nat} {L : List Int} {b : Bool} (hL : lpL R N T = L) (hn : n = L.length) (hb : decide (MtOk R N T L) = b)
    (h : ListPostC L w (.returned (.slice v n c)) w') : LpPost R N T w (.returned (.tuple #[.slice v n c, .bool b])) w' := by
  obtain ⟨v', c', e, h1, h2, h3⟩ := h
  injection e with e
  injection e with e1 e2 e3
  subst hL hb hn e1 e3
  exact ⟨v, c, rfl, h1, h2, h3⟩
/-- What is left to climb, read out of the list in memory. -/
def cellI (o : Option Value) : Int := match o with | some (.int _ n) => n | _ => 0
def memR (n : Nat) (v : Value) (W : World) : Nat := match v with | .slice (some a) _ _ => (sqS (fun i => 10000 - cellI (W.cell? ⟨a.block, i, none⟩)) n).toNat | _ => 0
theorem memR_is {R : List (List Int)} {N T : Int} {W : World} {b l c k : Nat} (h : RowX W b (itL R N T k)) : memR R.length (.slice (some ⟨b, 0, none⟩) l c) W = itR R N T k := by
  show (sqS _ _).toNat = (sqS _ _).toNat
  rw [sqS_congr (g := fun i => 10000 - (lkOf R N T).it 10000 k i) fun i hi => ?_]
  · rfl
  · rw [h.cell (by rw [itL_length]; exact hi), ← itL_it k i hi]
    rfl
/-- The two lists of the call: the powers after k steps and after k + 1. -/
def TwoX (w W : World) (R : List (List Int)) (N T : Int) (a : Option Addr) (c k : Nat) (s x : Value) : Prop :=
  ∃ b1 b2, s = .slice (some ⟨b1, 0, none⟩) R.length R.length ∧ x = .slice (some ⟨b2, 0, none⟩) R.length R.length ∧ b1 ≠ b2 ∧ w.heap.size < b1 ∧ w.heap.size < b2 ∧ RowX W b1 (itL R N T k) ∧ RowX W b2 (itL R N T (k + 1)) ∧
    BoxC W w.heap.size a R.length c N T ∧ Below w.heap.size w W
theorem rowX_zero (w : World) (n : Nat) : RowX (w.alloc (.cells (madeCells #[.int .i64 0] n) 3)) w.heap.size (List.replicate n 0) := by
  have h := rowX_made w (fun _ => 0) n
  rw [mkX_start] at h
  exact h
theorem BoxC.drewN {W : World} {q n c : Nat} {a : Option Addr} {N T : Int} (h : BoxC W q a n c N T) (m : Nat) : BoxC (W.drewN m) q a n c N T := ⟨h.g, h.n, h.t, h.lt⟩
/-- Two lists of the call, one of them to be written. -/
def TwoS (w W : World) (R : List (List Int)) (N T : Int) (a : Option Addr) (c k b1 b2 : Nat) (X : List Int) : Prop :=
  b1 ≠ b2 ∧ w.heap.size < b1 ∧ w.heap.size < b2 ∧ RowX W b1 (itL R N T k) ∧ RowX W b2 X ∧ X.length = R.length ∧ BoxC W w.heap.size a R.length c N T ∧ Below w.heap.size w W
end Go.Proofs.Ytgdfjbdpidileaa
