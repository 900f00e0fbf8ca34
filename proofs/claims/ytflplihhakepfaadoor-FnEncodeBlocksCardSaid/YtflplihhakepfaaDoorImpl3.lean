/-
  What BitsOfBytes and BytesOfBits answer. Condition: each number of a list of bytes is a byte.
-/
import Derived.Test.YtflplihhakepfaaDoorByte2
namespace Go.Proofs.YtflplihhakepfaaDoor
open Go.RowKit

/-- The bits of bytes, or none for too many bytes. -/
def bobOr (ds : List Int) : List Int := if bytesOk ds then bitList (bytesF ds ds.length) (ds.length * 8) else []
def packOk (xs : List Int) : Bool := bitsOk xs && decide (xs.length % 8 = 0)
def yobOr (xs : List Int) : List Int := if packOk xs then byteList (bitsF xs xs.length) (xs.length / 8) else []
/-- What a call leaves that returns a new list of bytes and whether there is one. -/
def BytesPost (ys : List Int) (ok : Bool) (w : World) (e : Ending) (w' : World) : Prop :=
  ∃ a cap, e = .returned (.tuple #[.slice a ys.length cap, .bool ok]) ∧ OwnInts .u8 5 w' w.heap.size a ys ∧ Below w.heap.size w w'
theorem bytesPost_nil {ok : Bool} {w w' : World} (h : Below w.heap.size w w') : BytesPost [] ok w (.returned (.tuple #[.slice none 0 0, .bool ok])) w' := ⟨none, 0, rfl, fun h => absurd rfl h, h⟩
theorem bytesPost_row {xs : List Int} {ok : Bool} {w w' : World} {b n : Nat} (hr : w'.rowIs b 5 n (fun i => .int .u8 (el xs i))) (hn : n = xs.length) (hb : w.heap.size ≤ b) (h : Below w.heap.size w w') :
    BytesPost xs ok w (.returned (.tuple #[.slice (some ⟨b, 0, none⟩) n n, .bool ok])) w' := by
  subst hn
  exact ⟨_, _, rfl, fun _ => ⟨b, _, rfl, hb, Nat.le_refl _, _, hr, fun _ _ => rfl⟩, h⟩

theorem one_blk {w1 W : World} {z cs : Array Value} {t : TypeId} {fr : Nat × Nat} (h : Hid (W = (w1.alloc (.cells z t fr)).setRow w1.heap.size cs)) : W.heap[w1.heap.size]? = some (.cells cs t fr) := by
  rw [h.out]; exact setRow_heap _ _ _ _ _ _ (heap_alloc_last _ _)
theorem below_one {w w1 W : World} {z cs : Array Value} {t : TypeId} {fr : Nat × Nat} (hb : Below w.heap.size w w1) (h : Hid (W = (w1.alloc (.cells z t fr)).setRow w1.heap.size cs)) : Below w.heap.size w W := by
  rw [h.out]; exact below_setRow (hb.alloc hb.size _) hb.size _
theorem size_one {w1 W : World} {z cs : Array Value} {t : TypeId} {fr : Nat × Nat} (h : Hid (W = (w1.alloc (.cells z t fr)).setRow w1.heap.size cs)) : w1.heap.size < W.heap.size := by
  rw [h.out]; simp

theorem len_cell {W : World} {g n : Nat} {cs : Array Value} {P : Nat → Nat} (hg : W.heap[g]? = some (.cells cs 46 (0, 0))) (hp : IsPack cs P n) : W.cell? ⟨g, 16, none⟩ = some (.int .i64 n) := by
  rw [← hp.2.2]; exact cell_of_row _ _ _ _ _ _ hg
end Go.Proofs.YtflplihhakepfaaDoor
