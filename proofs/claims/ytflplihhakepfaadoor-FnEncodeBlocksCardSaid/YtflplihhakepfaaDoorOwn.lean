/-
  Lists that a call made, by the blocks in which they lie: what a mark in one leaves of the others. No condition.
-/
import Derived.Test.YtflplihhakepfaaDoorMarks
import Derived.Test.YtflplihhakepfaaDoorExact1
namespace Go.Proofs.YtflplihhakepfaaDoor
open Go.RowKit

/-- The list xs lies in a block of its own from B on and before C; it may be written. -/
def Own (k : IntKind) (t : TypeId) (w : World) (B C : Nat) (a : Option Addr) (xs : List Int) : Prop :=
  xs ≠ [] → ∃ b cap f, a = some ⟨b, 0, none⟩ ∧ B ≤ b ∧ b < C ∧ xs.length ≤ cap ∧ w.rowIs b t cap f ∧ ∀ i, i < xs.length → f i = .int k (el xs i)
/-- Outside the blocks from B on and before C the world is as it was. -/
structure KeptOut (B C : Nat) (w w' : World) : Prop where
  os : w'.os = w.os
  tape : w'.tape = w.tape
  output : w'.output = w.output
  size : w.heap.size ≤ w'.heap.size
  block : ∀ j, j < w.heap.size → (j < B ∨ C ≤ j) → w'.heap[j]? = w.heap[j]?
theorem KeptOut.refl (B C : Nat) (w : World) : KeptOut B C w w := ⟨rfl, rfl, rfl, Nat.le_refl _, fun _ _ _ => rfl⟩
theorem KeptOut.below {B C : Nat} {w w' : World} (h : KeptOut B C w w') (hB : B ≤ w.heap.size) : Below B w w' := ⟨h.os, h.tape, h.output, h.size, fun j hj => h.block j (by omega) (.inl hj)⟩
theorem KeptOut.of_grown {B C b : Nat} {w w' : World} (h : w.grownBy w' (some b)) (h1 : B ≤ b) (h2 : b < C) : KeptOut B C w w' :=
  ⟨h.os, h.tape, h.output, h.size, fun j hj ho => h.block j hj (fun e => by injection e; omega)⟩
theorem KeptOut.of_below {B C : Nat} {w w' : World} (h : Below w.heap.size w w') : KeptOut B C w w' := ⟨h.os, h.tape, h.output, h.size, fun j hj _ => h.block j hj⟩

section
variable {k : IntKind} {t : TypeId} {w w' : World} {B C D E : Nat} {a : Option Addr} {xs : List Int}
theorem Own.keep (h : Own k t w B C a xs) (hk : KeptOut D E w w') (hd : C ≤ D ∨ E ≤ B) : Own k t w' B C a xs := fun hne => by
  obtain ⟨b, cap, f, e, h1, h2, h3, h4, h5⟩ := h hne
  exact ⟨b, cap, f, e, h1, h2, h3, h4.of_block (hk.block b h4.lt (by omega)), h5⟩
theorem Own.next (h : Own k t w B C a xs) (hb : Below w.heap.size w w') : Own k t w' B C a xs := h.keep (KeptOut.of_below (B := C) (C := C) hb) (.inl (Nat.le_refl _))
theorem Own.drewN (h : Own k t w B C a xs) (n : Nat) : Own k t (w.drewN n) B C a xs := h
theorem Own.ints (h : Own k t w B C a xs) : Ints k w C a xs := fun hne => by
  obtain ⟨b, cap, f, e, h1, h2, h3, h4, h5⟩ := h hne
  exact ⟨b, 0, e, h2, fun i hi => by rw [Nat.zero_add, h4.cell (by omega), h5 i hi]⟩
theorem Ints.out (h : Ints k w B a xs) (hk : KeptOut D E w w') (hd : B ≤ D) (hB : B ≤ w.heap.size) : Ints k w' B a xs :=
  h.below ⟨hk.os, hk.tape, hk.output, hk.size, fun j hj => hk.block j (by omega) (.inl (by omega))⟩
end
theorem own_of_row {k : IntKind} {t : TypeId} {w : World} {b n C : Nat} {xs : List Int} (h : w.rowIs b t n (fun i => .int k (el xs i))) (hn : n = xs.length) (hC : b < C) : Own k t w b C (some ⟨b, 0, none⟩) xs := fun _ =>
  ⟨b, n, _, rfl, Nat.le_refl _, hC, by omega, h, fun _ _ => rfl⟩
theorem own_of_list {w w' : World} {a : Option Addr} {xs : List Int} (h : OwnInts .i64 3 w' w.heap.size a xs) : Own .i64 3 w' w.heap.size w'.heap.size a xs := fun hne => by
  obtain ⟨b, cap, e, h1, h2, f, h4, h5⟩ := h hne
  exact ⟨b, cap, f, e, h1, h4.lt, h2, h4, h5⟩
theorem Ints.upto {k : IntKind} {w : World} {B : Nat} {a : Option Addr} {xs : List Int} (h : Ints k w B a xs) (hB : B ≤ w.heap.size) : Ints k w w.heap.size a xs := h.more hB

end Go.Proofs.YtflplihhakepfaaDoor
