/-
  What packing bytes answers: the words hold the bits of the bytes, or false for too many bytes. Condition: each number is a byte.
-/
import Derived.Test.YtnmhiagnmfpipaaByte1
import Derived.Test.YtnmhiagnmfpipaaPackBits
namespace Go.Proofs.Ytnmhiagnmfpipaa
open Go.RowKit

def isByte (n : Int) : Prop := 0 ≤ n ∧ n < 256
def ByteRel (ds : List Int) (w : World) (k : Nat) (wr : World) : Prop :=
  (∃ cs P, wr.heap[w.heap.size + 1]? = some (.cells cs 75 (0, 0)) ∧ IsPack cs P (ds.length * 8) ∧ Packed P (bytesF ds k)) ∧
  (∃ cs, wr.heap[w.heap.size]? = some (.cells cs 75 (0, 0)) ∧ cs.size = 17) ∧ Below w.heap.size w wr
def bytesOk (ds : List Int) : Bool := decide (ds.length ≤ 128)
def BytePost (ds : List Int) (w : World) (e : Ending) (w' : World) : Prop :=
  ∃ cs P, e = .returned (.tuple #[.agg cs, .bool (bytesOk ds)]) ∧ (bytesOk ds = true → IsPack cs P (ds.length * 8) ∧ Packed P (bytesF ds ds.length)) ∧ cs.size = 17 ∧ cs.all (·.oneCell') = true ∧ Below w.heap.size w w'
set_option maxRecDepth 10000 in
theorem byteRel_step {ds : List Int} {w wr : World} {k : Nat} {cs cs0 : Array Value} {P : Nat → Nat} (hk : k < ds.length) (hl : ds.length ≤ 128) (hv : (el ds k).toNat < 256)
    (hblk : wr.heap[w.heap.size + 1]? = some (.cells cs 75 (0, 0))) (hpk : IsPack cs P (ds.length * 8)) (hbits : Packed P (bytesF ds k))
    (hblk0 : wr.heap[w.heap.size]? = some (.cells cs0 75 (0, 0))) (hs0 : cs0.size = 17) (hbel : Below w.heap.size w wr) :
    ByteRel ds w (k + 1) (wr.setCell ⟨w.heap.size + 1, k * 8 / 64, none⟩ (.int .u64 (orByte (P (k * 8 / 64)) (k * 8 % 64) (el ds k).toNat))) := by
  have hd : k * 8 / 64 < 16 := by omega
  refine ⟨⟨cs.setIfInBounds (k * 8 / 64) (.int .u64 (orByte (P (k * 8 / 64)) (k * 8 % 64) (el ds k).toNat)), _, ?_, isPack_set hpk hd _, packed_byte hbits (by omega) hv⟩, ⟨cs0, ?_, hs0⟩, hbel.setCell (by show w.heap.size ≤ w.heap.size + 1; omega) _⟩
  · rw [setCell_eq_setRow wr (w.heap.size + 1) (k * 8 / 64) cs _ _ _ hblk]
    exact setRow_heap _ _ _ _ _ _ hblk
  · rw [Below.heap_setCell _ _ _ _ (by show w.heap.size ≠ w.heap.size + 1; omega)]
    exact hblk0

end Go.Proofs.Ytnmhiagnmfpipaa
