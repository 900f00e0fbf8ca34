/-
  What the model's BytesOfBits answers. No condition.
-/
import Derived.Test.YtflplihhakepfabDoorSpec3
namespace Go.Proofs.YtflplihhakepfabDoor
open Go.RowKit

section
variable {w : World} {ops : Array Oper} {rest : List Oper} {o : Oper} {a : Act} {Q : Exit → Act → World → Prop}
end
theorem byteList_succ (f : Nat → Bool) (k : Nat) : byteList f (k + 1) = byteList f k ++ [(msb f (8 * k) 8 : Int)] := by
  simp [byteList, List.range_succ]
theorem bytesPost_grow {xs : List Int} {ok : Bool} {w w' : World} {a : Option Addr} {n cap : Nat} (h : Grow .u8 5 w' w.heap.size a n cap xs) (hb : Below w.heap.size w w') : BytesPost xs ok w (.returned (.tuple #[.slice a n cap, .bool ok])) w' := by
  have hl := h.len
  refine ⟨a, cap, by rw [hl], fun hne => ?_, hb⟩
  have hp : 0 < n := by rw [← hl]; exact List.length_pos_iff.2 hne
  obtain ⟨b, f, rfl, h1, _, h3, h4, h5⟩ := h.row hp
  exact ⟨b, cap, rfl, h1, by omega, f, h4, fun i hi => h5 i (by omega)⟩
theorem bitsF_val {xs : List Int} (h : bitsOk xs = true) {j : Nat} (hj : j < xs.length) : el xs j = ((bitsF xs xs.length j).toNat : Int) := by
  unfold bitsF
  rcases bit_cases h hj with e | e <;> rw [e] <;> simp [hj]

end Go.Proofs.YtflplihhakepfabDoor
