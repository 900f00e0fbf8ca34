/-
  What packing bytes answers: the words hold the bits of the bytes, or false for too many bytes. Condition: each number is a byte.
-/
import Derived.Test.YtnedhpodfjlnmaaByte1
import Derived.Test.YtnedhpodfjlnmaaPackBits
namespace Go.Proofs.Ytnedhpodfjlnmaa
open Go.RowKit

def isByte (n : Int) : Prop := 0 ≤ n ∧ n < 256
def ByteRel (ds : List Int) (w : World) (k : Nat) (wr : World) : Prop :=
  (∃ cs P, wr.heap[w.heap.size + 1]? = some (.cells cs 49 (0, 0)) ∧ IsPack cs P (ds.length * 8) ∧ Packed P (bytesF ds k)) ∧
  (∃ cs, wr.heap[w.heap.size]? = some (.cells cs 49 (0, 0)) ∧ cs.size = 17) ∧ Below w.heap.size w wr
def bytesOk (ds : List Int) : Bool := decide (ds.length ≤ 128)
def BytePost (ds : List Int) (w : World) (e : Ending) (w' : World) : Prop :=
  ∃ cs P, e = .returned (.tuple #[.agg cs, .bool (bytesOk ds)]) ∧ (bytesOk ds = true → IsPack cs P (ds.length * 8) ∧ Packed P (bytesF ds ds.length)) ∧ cs.size = 17 ∧ cs.all (·.oneCell') = true ∧ Below w.heap.size w w'
theorem byteRel_step {ds : List Int} {w wr : World} {k : Nat} {cs cs0 : Array Value} {P : Nat → Nat} (hk : k < ds.length) (hl : ds.length ≤ 128) (hv : (el ds k).toNat < 256)
    (hblk : wr.heap[w.heap.size + 1]? = some (.cells cs 49 (0, 0))) (hpk : IsPack cs P (ds.length * 8)) (hbits : Packed P (bytesF ds k))
    (hblk0 : wr.heap[w.heap.size]? = some (.cells cs0 49 (0, 0))) (hs0 : cs0.size = 17) (hbel : Below w.heap.size w wr) :
    ByteRel ds w (k + 1) (wr.setCell ⟨w.heap.size + 1, k * 8 / 64, none⟩ (.int .u64 (orByte (P (k * 8 / 64)) (k * 8 % 64) (el ds k).toNat))) := by
  have hd : k * 8 / 64 < 16 := by omega
  refine ⟨⟨cs.setIfInBounds (k * 8 / 64) (.int .u64 (orByte (P (k * 8 / 64)) (k * 8 % 64) (el ds k).toNat)), _, ?_, isPack_set hpk hd _, packed_byte hbits (by omega) hv⟩, ⟨cs0, ?_, hs0⟩, hbel.setCell (by show w.heap.size ≤ w.heap.size + 1; omega) _⟩
  · rw [setCell_eq_setRow wr (w.heap.size + 1) (k * 8 / 64) cs _ _ _ hblk]
    exact setRow_heap _ _ _ _ _ _ hblk
  · rw [Below.heap_setCell _ _ _ _ (by show w.heap.size ≠ w.heap.size + 1; omega)]
    exact hblk0

set_option maxHeartbeats 1000000 in
theorem packBytes_small (a : Option Addr) (c B : Nat) (ds : List Int) (w : World) (hx : Ints .u8 w B a ds) (hB : B ≤ w.heap.size) (hl : ds.length ≤ 128) (hw : ∀ n ∈ ds, isByte n) :
    Calls Try.prog 47 #[.slice a ds.length c] w (BytePost ds w) := by
  have HW := Lib.hid hw
  clear hw
  go_enter Try.func47, Try.ntmps47
  go_wp2
  go_loopw [18] (fun i wr => ∃ k : Nat, k ≤ ds.length ∧ i = .int .i64 k ∧ ByteRel ds w k wr) (fun i _ => ds.length - (intOf i).toNat)
  case atStart =>
    refine ⟨0, Nat.zero_le _, rfl, ⟨_, fun _ => 0, heap_last2 _ _ _, ⟨rfl, ?_, by simp⟩, packed_nobyte ds⟩, ⟨_, heap_prev2 _ _ _, rfl⟩, ((Below.refl _ _).alloc (Nat.le_refl _) _).alloc (by simp) _⟩
    intro i hi
    match i, hi with
    | 0, _ | 1, _ | 2, _ | 3, _ | 4, _ | 5, _ | 6, _ | 7, _ | 8, _ | 9, _ | 10, _ | 11, _ | 12, _ | 13, _ | 14, _ | 15, _ => rfl
    | (n + 16), h => exact absurd h (by omega)
  case round =>
    obtain ⟨k, hk, rfl, hrel⟩ := hrel
    obtain ⟨⟨cs, P, hblk, hpk, hbits⟩, ⟨cs0, hblk0, hs0⟩, hbel⟩ := hrel
    have HB := Lib.hid hblk
    have HB0 := Lib.hid hblk0
    have HS0 := Lib.hid hs0
    have HP := Lib.hid hpk
    have HBi := Lib.hid hbits
    have HBe := Lib.hid hbel
    by_cases hlt : k < ds.length
    · obtain ⟨b, off, rfl, hb, hc⟩ := (hx.below (hbel.mono hB)).at_ hlt
      clear hblk hblk0 hs0 hpk hbits hbel hx
      have hby := HW.out _ (el_mem hlt)
      obtain ⟨v, hv⟩ : ∃ v : Nat, v = (el ds k).toNat := ⟨_, rfl⟩
      have hev : el ds k = (v : Int) := by have := hby.1; omega
      have hv2 : v < 256 := by have := hby.2; omega
      rw [hev] at hc
      have HN := Lib.hid (byteRel_step hlt hl (by omega) HB.out HP.out HBi.out HB0.out HS0.out HBe.out)
      rw [← hv] at HN
      clear hv hev hby
      have hcw : wr.cell? ⟨w.heap.size + 1, k * 8 / 64, none⟩ = some (.int .u64 (P (k * 8 / 64))) := by
        have := HP.out.2.1 (k * 8 / 64) (by omega)
        rw [← this]; exact cell_of_row _ _ _ _ _ _ HB.out
      have hfw : wr.frozen? ⟨w.heap.size + 1, k * 8 / 64, none⟩ = false := by
        have := HB.out
        simp [World.frozen?, this]
      have hp := HBi.out.1 (k * 8 / 64) (by omega)
      go_wp2_with ((go_at_call 55); refine (withByte_any (P (k * 8 / 64)) (k * 8 % 64) v _ hp (by omega) hv2).mono ?_; rintro e w' ⟨rfl, rfl⟩)
      go_roundw
      case rel => exact ⟨k + 1, by omega, by go_num, HN.out⟩
      case measure => simp [intOf]; omega
    · clear hblk hblk0 hs0 hpk hbits hbel hx
      obtain rfl : ds.length = k := by omega
      go_wp2_with (first | (refine load_pack (.tmp 4) (w.heap.size + 1) cs HB.out HP.out.1 rfl rfl rfl ?_) | (refine store_pack (.tmp 2) (.tmp 39) w.heap.size cs cs0 HB0.out HP.out.1 HS0.out (pack_one HP.out) rfl rfl rfl rfl ?_))
      refine bodyPost_ret (results_pack rfl _ _ w.heap.size cs rfl (setRow_heap _ _ _ _ _ _ HB0.out) HP.out.1) rfl ?_
      have hz : bytesOk ds = true := by simp [bytesOk]; omega
      exact ⟨cs, P, by rw [hz]; rfl, fun _ => ⟨HP.out, HBi.out⟩, HP.out.1, pack_one HP.out, below_setRow HBe.out (Nat.le_refl _) _⟩

set_option maxHeartbeats 400000 in
theorem packBytes_long (a : Option Addr) (c : Nat) (ds : List Int) (w : World) (hl : 128 < ds.length) :
    Calls Try.prog 47 #[.slice a ds.length c] w (BytePost ds w) := by
  have hz : bytesOk ds = false := by simp [bytesOk]; omega
  have HZ := Lib.hid hz
  clear hz
  go_enter Try.func47, Try.ntmps47
  go_wp2
  refine bodyPost_ret (results_pack rfl _ _ w.heap.size zeroPack rfl (heap_alloc_last _ _) rfl) rfl ?_
  exact ⟨zeroPack, fun _ => 0, by rw [HZ.out]; rfl, (fun h => by rw [HZ.out] at h; cases h), rfl, zeroPack_one, (Below.refl _ _).alloc (Nat.le_refl _) _⟩
theorem packBytes_any (a : Option Addr) (c B : Nat) (ds : List Int) (w : World) (hx : Ints .u8 w B a ds) (hB : B ≤ w.heap.size) (hw : ∀ n ∈ ds, isByte n) :
    Calls Try.prog 47 #[.slice a ds.length c] w (BytePost ds w) := by
  by_cases h : ds.length ≤ 128
  · exact packBytes_small a c B ds w hx hB h hw
  · exact packBytes_long a c ds w (by omega)
end Go.Proofs.Ytnedhpodfjlnmaa
