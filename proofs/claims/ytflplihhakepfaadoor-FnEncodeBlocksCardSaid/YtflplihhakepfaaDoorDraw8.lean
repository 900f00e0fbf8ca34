/-
  How the laws of chapter 2 draw generator polynomials and lists of bits: what comes out, and what it leaves. Condition: fewer than 2^39 numbers were picked before.
-/
import Derived.Test.YtflplihhakepfaaDoorDraw4
namespace Go.Proofs.YtflplihhakepfaaDoor
open Go.RowKit

theorem oddZ_any (R : Nat) (w : World) : Calls Tryd.prog 41 #[.pointer (some ⟨R, 0, none⟩), .int .i64 0] w fun e w' => e = .returned (.bool false) ∧ w = w' := by
  go_enter Tryd.func41, Tryd.ntmps41
  go_wp2
  go_ret
  exact ⟨rfl, rfl⟩
/-- What drawing a generator polynomial leaves. -/
def GenPost (R p : Nat) (w : World) (e : Ending) (w' : World) : Prop :=
  ∃ g : Int, (-10 ≤ g ∧ g ≤ 131073) ∧ e = .returned (.int .i64 g) ∧ ∃ p', p' ≤ p + 3 ∧ Rd w' R p' ∧ w.grownBy w' (some R)
theorem cell_grown {w w' : World} {b R i : Nat} {cs : Array Value} {t : TypeId} (hg : (w.alloc (.cells cs t)).grownBy w' (some R)) (hb : b = w.heap.size) (hR : R < w.heap.size) : w'.cell? ⟨b, i, none⟩ = cs[i]? := by
  subst hb
  rw [World.cell?_of_block (hg.block w.heap.size (by simp) (fun e => by injection e; omega)), cell_of_row _ _ _ _ _ _ (heap_alloc_last w _)]
/-- A drawn number. -/
def NumPost (w : World) (e : Ending) (w' : World) : Prop :=
  ∃ g : Int, (-1000000 ≤ g ∧ g ≤ 1000000) ∧ e = .returned (.int .i64 g) ∧ Below w.heap.size w w'
theorem below_R {w w1 w2 : World} (h : Below w.heap.size w w1) (g : w1.grownBy w2 (some w.heap.size)) : Below w.heap.size w w2 := h.grown g h.size (fun k e => by injection e; omega)
end Go.Proofs.YtflplihhakepfaaDoor
