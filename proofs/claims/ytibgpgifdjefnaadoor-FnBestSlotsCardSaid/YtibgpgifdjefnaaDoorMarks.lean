/-
  What marking a list and looking whether its marks still stand answer. Condition: at most 2^20 elements; the first mark is below 2^30.
-/
import Derived.Test.YtibgpgifdjefnaaDoorGrow
namespace Go.Proofs.YtibgpgifdjefnaaDoor
open Go.RowKit

/-- The marks k, k + 1, .. of a list of integers. -/
def marks (k n : Nat) : List Int := (List.range n).map fun i => ((k + i : Nat) : Int)
theorem marks_length (k n : Nat) : (marks k n).length = n := by simp [marks]
theorem marks_el (k n i : Nat) (h : i < n) : el (marks k n) i = ((k + i : Nat) : Int) := by simp [el, marks, h]
/-- The marks of a list of bytes. -/
def bmarks (k n : Nat) : List Int := (List.range n).map fun i => (((k + i) % 256 : Nat) : Int)
theorem bmarks_length (k n : Nat) : (bmarks k n).length = n := by simp [bmarks]
theorem bmarks_el (k n i : Nat) (h : i < n) : el (bmarks k n) i = (((k + i) % 256 : Nat) : Int) := by simp [el, bmarks, h]

theorem grown_set {w w' : World} {b i : Nat} {v : Value} (h : w.grownBy w' (some b)) : w.grownBy (w'.setCell ⟨b, i, none⟩ v) (some b) :=
  ⟨h.os, h.tape, h.output, by simpa [World.setCell] using h.size, fun j hj hne => (Below.heap_setCell _ _ _ _ (fun e => hne (by rw [e]))).trans (h.block j hj hne)⟩
theorem Ints.grown {k : IntKind} {w w' : World} {B b : Nat} {a : Option Addr} {xs : List Int} (h : Ints k w B a xs) (hg : w.grownBy w' (some b)) (hB : B ≤ b) (hw : B ≤ w.heap.size) : Ints k w' B a xs :=
  h.keep fun p hp => World.cell?_of_block (hg.block p.block (by omega) (fun e => by injection e; omega))
theorem row_grown {w w' : World} {b b' t n : Nat} {f : Nat → Value} (h : w.rowIs b t n f) (hg : w.grownBy w' (some b')) (hne : b ≠ b') : w'.rowIs b t n f :=
  h.of_block (hg.block b h.lt (fun e => hne (by injection e)))
theorem below_grown {B b : Nat} {w0 w w' : World} (h : Below B w0 w) (hg : w.grownBy w' (some b)) (hb : B ≤ b) (hB : B ≤ w0.heap.size) : Below B w0 w' := h.grown hg (Nat.le_trans hB h.size) (fun k e => by injection e; omega)
theorem set_mark {w : World} {b t cap k : Nat} {f g : Nat → Value} {v : Value} (h : w.rowIs b t cap (fun j => if j < k then g j else f j)) (hv : v = g k) : (w.setCell ⟨b, k, none⟩ v).rowIs b t cap (fun j => if j < k + 1 then g j else f j) :=
  (h.set k v).congr fun j _ => by
    by_cases e : j = k
    · subst e; simp [hv]
    · simp only [e, if_false]
      by_cases h2 : j < k
      · simp [h2, Nat.lt_succ_of_lt h2]
      · simp [h2, show ¬ j < k + 1 by omega]
end Go.Proofs.YtibgpgifdjefnaaDoor
