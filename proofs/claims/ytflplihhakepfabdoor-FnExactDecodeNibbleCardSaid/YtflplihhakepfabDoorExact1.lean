/-
  The law of HammingDistance's exactness, walked: it returns true for every two lists, and writes into nothing that was there.
-/
import Derived.Test.YtflplihhakepfabDoorSpec2
namespace Go.Proofs.YtflplihhakepfabDoor
open Go.RowKit

theorem Ints.next {k : IntKind} {w w' : World} {a : Option Addr} {xs : List Int} (h : Ints k w w.heap.size a xs) (hb : Below w.heap.size w w') : Ints k w' w'.heap.size a xs := (h.below hb).more hb.size
theorem Below.next {B : Nat} {w w' w'' : World} (h : Below B w w') (hB : B ≤ w.heap.size) (h' : Below w'.heap.size w' w'') : Below B w w'' := h.trans (h'.mono (Nat.le_trans hB h.size))
theorem toIntS_ints (a : Option Addr) (c : Nat) (xs : List Int) (w : World) (hx : Ints .i64 w w.heap.size a xs) (hl : xs.length ≤ 1048576) :
    Calls Tryd.prog 7 #[.slice a xs.length c] w fun e w' => e = .returned (.slice (some ⟨w.heap.size, 0, none⟩) xs.length xs.length) ∧
      Ints .i64 w' w'.heap.size (some ⟨w.heap.size, 0, none⟩) xs ∧ Below w.heap.size w w' :=
  (toIntS_any a c w.heap.size xs w hx (Nat.le_refl _) hl).mono fun _ _ ⟨h1, h2, h3⟩ => ⟨h1, ints_of_row h2 rfl h2.lt, h3⟩

end Go.Proofs.YtflplihhakepfabDoor
