/-
  How the laws draw lists of bits: what comes out, and what it leaves. Condition: fewer than 2^39 numbers were picked before.
-/
import Derived.Test.YtflplihhakepfabDoorDraw1
namespace Go.Proofs.YtflplihhakepfabDoor
open Go.RowKit

theorem Ints.take {k : IntKind} {w : World} {B m : Nat} {a : Option Addr} {xs : List Int} (h : Ints k w B a xs) : Ints k w B a (xs.take m) := fun hne => by
  have hne' : xs ≠ [] := by intro e; subst e; simp at hne
  obtain ⟨b, off, e, hb, hc⟩ := h hne'
  refine ⟨b, off, e, hb, fun i hi => ?_⟩
  have hi2 : i < m ∧ i < xs.length := by simpa [Nat.lt_min] using hi
  rw [hc i hi2.2]
  simp [el, hi2.1, hi2.2]
theorem Grow.grownR {k : IntKind} {t : TypeId} {w w' : World} {base n cap R : Nat} {a : Option Addr} {xs : List Int} (h : Grow k t w base a n cap xs) (hg : w.grownBy w' (some R)) (hR : R < base) : Grow k t w' base a n cap xs :=
  h.keep fun b hb hlt => hg.block b hlt (fun e => by injection e; omega)
theorem grown_below {w a b : World} {R B : Nat} (h : w.grownBy a (some R)) (hb : Below B a b) (hB : w.heap.size ≤ B) : w.grownBy b (some R) :=
  ⟨hb.os.trans h.os, hb.tape.trans h.tape, hb.output.trans h.output, Nat.le_trans h.size hb.size, fun j hj hne => (hb.block j (by omega)).trans (h.block j hj hne)⟩
theorem grown_trans {w a b : World} {R : Nat} (h : w.grownBy a (some R)) (h' : a.grownBy b (some R)) : w.grownBy b (some R) :=
  ⟨h'.os.trans h.os, h'.tape.trans h.tape, h'.output.trans h.output, Nat.le_trans h.size h'.size, fun j hj hne => (h'.block j (Nat.lt_of_lt_of_le hj h.size) hne).trans (h.block j hj hne)⟩

/-- A number that a drawn list of bits may hold. -/
def small (x : Int) : Prop := -1 ≤ x ∧ x ≤ 2
theorem grown_alloc {w a : World} {R : Nat} (h : w.grownBy a (some R)) (o : Obj) : w.grownBy (a.alloc o) (some R) :=
  ⟨h.os, h.tape, h.output, Nat.le_trans h.size (by simp), fun j hj hne => (Below.heap_alloc a o j (Nat.lt_of_lt_of_le hj h.size)).trans (h.block j hj hne)⟩
theorem small_snoc {xs : List Int} {x : Int} (h : ∀ y ∈ xs, small y) (hx : small x) : ∀ y ∈ xs ++ [x], small y := fun y hy => by
  rcases List.mem_append.1 hy with hy | hy
  · exact h y hy
  · simp at hy; subst hy; exact hx
theorem Grow.addr {k : IntKind} {t : TypeId} {w : World} {base n cap : Nat} {a : Option Addr} {xs : List Int} (h : Grow k t w base a (n + 1) cap xs) : ∃ ad, a = some ad := by
  obtain ⟨b, f, e, _⟩ := h.row (by omega)
  exact ⟨_, e⟩
end Go.Proofs.YtflplihhakepfabDoor
