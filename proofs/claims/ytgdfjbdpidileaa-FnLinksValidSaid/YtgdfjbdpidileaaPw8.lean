/-
  What the model of LeastPowers answers. Condition: the rows can be read.
-/
import Derived.Test.YtgdfjbdpidileaaPw7
namespace Go.Proofs.Ytgdfjbdpidileaa
open Go.RowKit

section
variable {k : IntKind} {t : TypeId} {w w' : World} {B B' : Nat} {a : Option Addr} {xs : List Int}
theorem OwnInts.next9 (h : OwnInts k t w B a xs) (hb : Below w.heap.size w w') : OwnInts k t w' B a xs := fun hne => by
  obtain ⟨b, cap, e, h1, h2, f, h4, h5⟩ := h hne
  exact ⟨b, cap, e, h1, h2, f, h4.of_block (hb.block b h4.lt), h5⟩
theorem OwnInts.more9 (h : OwnInts k t w B a xs) (hB : B' ≤ B) : OwnInts k t w B' a xs := fun hne => by
  obtain ⟨b, cap, e, h1, h2⟩ := h hne
  exact ⟨b, cap, e, Nat.le_trans hB h1, h2⟩
theorem OwnInts.ints9 (h : OwnInts k t w B a xs) : Ints k w w.heap.size a xs := fun hne => by
  obtain ⟨b, cap, e, h1, h2, f, h4, h5⟩ := h hne
  exact ⟨b, 0, e, h4.lt, fun i hi => by rw [Nat.zero_add, h4.cell (by omega), h5 i hi]⟩
theorem RowX.own9 {b : Nat} (h : RowX w b xs) (hB : B ≤ b) : OwnInts .i64 3 w B (some ⟨b, 0, none⟩) xs := fun _ => ⟨b, _, rfl, hB, Nat.le_refl _, _, h, fun _ _ => rfl⟩
end
def memI (n : Nat) (v : Value) (W : World) : Nat := match v with | .slice (some a) _ _ => (sqS (fun i => 10000 - cellI (W.cell? ⟨a.block, a.off + i, none⟩)) n).toNat | _ => 0
theorem memI_is {R : List (List Int)} {N T : Int} {W : World} {B l c k : Nat} {v : Option Addr} (h : Ints .i64 W B v (itL R N T k)) (hn : 0 < R.length) : memI R.length (.slice v l c) W = itR R N T k := by
  obtain ⟨b, off, rfl, _, hc⟩ := h (fun e => by have := itL_length (R := R) (N := N) (T := T) k; rw [e] at this; simp at this; omega)
  show (sqS _ _).toNat = (sqS _ _).toNat
  rw [sqS_congr (g := fun i => 10000 - (lkOf R N T).it 10000 k i) fun i hi => ?_]
  · rfl
  · have := hc i (by rw [itL_length]; exact hi)
    show 10000 - cellI (W.cell? ⟨b, off + i, none⟩) = _
    rw [this, ← itL_it k i hi]
    rfl
def sameTo (A B : List Int) (m : Nat) : Prop := ∀ j, j < m → el A j = el B j
instance (A B : List Int) (m : Nat) : Decidable (sameTo A B m) := inferInstanceAs (Decidable (∀ j, j < m → _ = _))
theorem sameTo_next {A B : List Int} {m : Nat} {x y : Int} {r : Bool} (hx : el A m = x) (hy : el B m = y) (h : decide (x = y) = r) (hs : decide (sameTo A B m) = true) : decide (sameTo A B (m + 1)) = r := by
  subst hx hy h
  rw [decide_eq_decide]
  have hs := of_decide_eq_true hs
  exact ⟨fun h => h m (Nat.lt_succ_self m), fun h j hj => by
    rcases Nat.lt_succ_iff_lt_or_eq.1 hj with h2 | rfl
    · exact hs j h2
    · exact h⟩
theorem sameTo_off {A B : List Int} {m : Nat} (hs : decide (sameTo A B m) = false) : decide (sameTo A B (m + 1)) = false :=
  decide_eq_false fun h => of_decide_eq_false hs fun j hj => h j (by omega)
theorem sameTo_all {A B : List Int} {n : Nat} (hA : A.length = n) (hB : B.length = n) : sameTo A B n ↔ A = B :=
  ⟨fun h => list_ext9 (by rw [hA, hB]) fun i hi => h i (by rw [← hA]; exact hi), fun h j _ => by rw [h]⟩
theorem lpPost_lit0 {R : List (List Int)} {N T : Int} {w w1 : World} (hL : lpL R N T = []) (hb : decide (MtOk R N T []) = false) (h : Below w.heap.size w w1) :
    LpPost R N T w (.returned (.tuple #[.slice (some ⟨w1.heap.size, 0, none⟩) 0 0, .bool false])) (w1.alloc (.cells #[] 3)) :=
  lpPost_of hL rfl hb ⟨_, 0, rfl, ⟨Nat.le_refl _, Nat.zero_le _⟩, fun h => absurd rfl h, h.alloc h.size _⟩
end Go.Proofs.Ytgdfjbdpidileaa
