/-
  What packing a list of bits answers: the words hold the bits, or false for a list that is not valid. Condition: the list has at most MaxBits numbers (longer ones: the second theorem).
-/
import Derived.Test.YtnmhiagnmfpipaaPack
namespace Go.Proofs.Ytnmhiagnmfpipaa
open Go.RowKit

def PackRel (xs : List Int) (w : World) (k : Nat) (wr : World) : Prop :=
  (∃ cs P, wr.heap[w.heap.size + 1]? = some (.cells cs 75 (0, 0)) ∧ IsPack cs P xs.length ∧ Packed P (bitsF xs k)) ∧
  (∃ cs, wr.heap[w.heap.size]? = some (.cells cs 75 (0, 0)) ∧ cs.size = 17) ∧ Below w.heap.size w wr ∧ (xs.take k).all isBit = true

/-- What packing leaves. -/
def PackPost (xs : List Int) (w : World) (e : Ending) (w' : World) : Prop :=
  ∃ cs P, e = .returned (.tuple #[.agg cs, .bool (bitsOk xs)]) ∧ (bitsOk xs = true → IsPack cs P xs.length ∧ Packed P (bitsF xs xs.length)) ∧ cs.size = 17 ∧ cs.all (·.oneCell') = true ∧ Below w.heap.size w w'

set_option maxRecDepth 10000 in
theorem packRel_step {xs : List Int} {w wr : World} {k : Nat} {cs cs0 : Array Value} {P : Nat → Nat} (hk : k < xs.length) (hl : xs.length ≤ 1024)
    (hblk : wr.heap[w.heap.size + 1]? = some (.cells cs 75 (0, 0))) (hpk : IsPack cs P xs.length) (hbits : Packed P (bitsF xs k))
    (hblk0 : wr.heap[w.heap.size]? = some (.cells cs0 75 (0, 0))) (hs0 : cs0.size = 17) (hbel : Below w.heap.size w wr) (hall : (xs.take k).all isBit = true) (h1 : isBit (el xs k) = true) :
    PackRel xs w (k + 1) (wr.setCell ⟨w.heap.size + 1, k / 64, none⟩ (.int .u64 (orBit (P (k / 64)) (k % 64) (el xs k)))) := by
  have hd : k / 64 < 16 := by omega
  refine ⟨⟨cs.setIfInBounds (k / 64) (.int .u64 (orBit (P (k / 64)) (k % 64) (el xs k))), _, ?_, isPack_set hpk hd _, packed_step hbits (by omega)⟩, ⟨cs0, ?_, hs0⟩, hbel.setCell (by show w.heap.size ≤ w.heap.size + 1; omega) _, all_take_succ _ _ _ hk hall h1⟩
  · rw [setCell_eq_setRow wr (w.heap.size + 1) (k / 64) cs _ _ _ hblk]
    exact setRow_heap _ _ _ _ _ _ hblk
  · rw [Below.heap_setCell _ _ _ _ (by show w.heap.size ≠ w.heap.size + 1; omega)]
    exact hblk0

set_option maxRecDepth 10000 in
set_option maxHeartbeats 1000000 in
theorem packBits_small (a : Option Addr) (c B : Nat) (xs : List Int) (w : World) (hx : Ints .i64 w B a xs) (hB : B ≤ w.heap.size) (hl : xs.length ≤ 1024) :
    Calls Try.prog 72 #[.slice a xs.length c] w (PackPost xs w) := by
  go_enter Try.func72, Try.ntmps72
  go_wp2
  go_loopw [16] (fun i wr => ∃ k : Nat, k ≤ xs.length ∧ i = .int .i64 k ∧ PackRel xs w k wr) (fun i _ => xs.length - (intOf i).toNat)
  case atStart =>
    refine ⟨0, Nat.zero_le _, rfl, ⟨_, fun _ => 0, heap_last2 _ _ _, ⟨rfl, ?_, rfl⟩, packed_zero xs⟩, ⟨_, heap_prev2 _ _ _, rfl⟩, ((Below.refl _ _).alloc (Nat.le_refl _) _).alloc (by simp) _, by simp⟩
    intro i hi
    match i, hi with
    | 0, _ | 1, _ | 2, _ | 3, _ | 4, _ | 5, _ | 6, _ | 7, _ | 8, _ | 9, _ | 10, _ | 11, _ | 12, _ | 13, _ | 14, _ | 15, _ => rfl
    | (n + 16), h => exact absurd h (by omega)
  case round =>
    obtain ⟨k, hk, rfl, hrel⟩ := hrel
    obtain ⟨⟨cs, P, hblk, hpk, hbits⟩, ⟨cs0, hblk0, hs0⟩, hbel, hall⟩ := hrel
    have HB := Lib.hid hblk
    have HB0 := Lib.hid hblk0
    have HS0 := Lib.hid hs0
    have HP := Lib.hid hpk
    have HBi := Lib.hid hbits
    have HBe := Lib.hid hbel
    have HA := Lib.hid hall
    by_cases hlt : k < xs.length
    · obtain ⟨b, off, rfl, hb, hc⟩ := (hx.below (hbel.mono hB)).at_ hlt
      clear hblk hblk0 hs0 hpk hbits hbel hall hx
      cases h1 : isBit (el xs k)
      · have n0 : (el xs k != 0) = true := by simp [isBit] at h1; simp [h1]
        have n1 : (el xs k != 1) = true := by simp [isBit] at h1; simp [h1]
        have HZ := Lib.hid (all_false isBit xs k hlt h1)
        clear h1
        go_wp2_with (refine store_pack (.tmp 2) (.tmp 27) w.heap.size zeroPack cs0 HB0.out rfl HS0.out zeroPack_one rfl rfl rfl rfl ?_)
        refine bodyPost_ret (results_pack rfl _ _ w.heap.size zeroPack rfl (setRow_heap _ _ _ _ _ _ HB0.out) rfl) rfl ?_
        have hz : bitsOk xs = false := by simp [bitsOk, HZ.out]
        exact ⟨zeroPack, fun _ => 0, by rw [hz]; rfl, (fun h => by rw [hz] at h; cases h), rfl, zeroPack_one, below_setRow HBe.out (Nat.le_refl _) _⟩
      · have hcw : wr.cell? ⟨w.heap.size + 1, k / 64, none⟩ = some (.int .u64 (P (k / 64))) := by
          have := HP.out.2.1 (k / 64) (by omega)
          rw [← this]; exact cell_of_row _ _ _ _ _ _ HB.out
        have hfw : wr.frozen? ⟨w.heap.size + 1, k / 64, none⟩ = false := by
          have := HB.out
          simp [World.frozen?, this]
        have hp := HBi.out.1 (k / 64) (by omega)
        have h0 : el xs k = 0 ∨ el xs k = 1 := by simpa [isBit] using h1
        have H0 := Lib.hid h0
        have HN := Lib.hid (packRel_step hlt hl HB.out HP.out HBi.out HB0.out HS0.out HBe.out HA.out h1)
        clear h1
        rcases h0 with hz | hz
        · have z1 : (el xs k != 0) = false := by simp [hz]
          clear hz
          go_wp2_with ((go_at_call 78); refine (withBit_any (P (k / 64)) (k % 64) _ _ hp (by omega) H0.out).mono ?_; rintro e w' ⟨rfl, rfl⟩)
          go_roundw
          case rel => exact ⟨k + 1, by omega, by go_num, HN.out⟩
          case measure => simp [intOf]; omega
        · have z1 : (el xs k != 0) = true := by simp [hz]
          have z2 : (el xs k != 1) = false := by simp [hz]
          clear hz
          go_wp2_with ((go_at_call 78); refine (withBit_any (P (k / 64)) (k % 64) _ _ hp (by omega) H0.out).mono ?_; rintro e w' ⟨rfl, rfl⟩)
          go_roundw
          case rel => exact ⟨k + 1, by omega, by go_num, HN.out⟩
          case measure => simp [intOf]; omega
    · clear hblk hblk0 hs0 hpk hbits hbel hall hx
      have HZ : Hid (xs.take k = xs) := List.take_of_length_le (by omega)
      obtain rfl : xs.length = k := by omega
      go_wp2_with (first | (refine load_pack (.tmp 4) (w.heap.size + 1) cs HB.out HP.out.1 rfl rfl rfl ?_) | (refine store_pack (.tmp 2) (.tmp 42) w.heap.size cs cs0 HB0.out HP.out.1 HS0.out (pack_one HP.out) rfl rfl rfl rfl ?_))
      refine bodyPost_ret (results_pack rfl _ _ w.heap.size cs rfl (setRow_heap _ _ _ _ _ _ HB0.out) HP.out.1) rfl ?_
      have hz : bitsOk xs = true := by
        have h := HA.out
        rw [HZ.out] at h
        simp [bitsOk, h]; omega
      exact ⟨cs, P, by rw [hz]; rfl, fun _ => ⟨HP.out, HBi.out⟩, HP.out.1, pack_one HP.out, below_setRow HBe.out (Nat.le_refl _) _⟩

set_option maxRecDepth 10000 in
set_option maxHeartbeats 400000 in
theorem packBits_long (a : Option Addr) (c : Nat) (xs : List Int) (w : World) (hl : 1024 < xs.length) :
    Calls Try.prog 72 #[.slice a xs.length c] w (PackPost xs w) := by
  have hz : bitsOk xs = false := by simp [bitsOk]; omega
  have HZ := Lib.hid hz
  clear hz
  go_enter Try.func72, Try.ntmps72
  go_wp2
  refine bodyPost_ret (results_pack rfl _ _ w.heap.size zeroPack rfl (heap_alloc_last _ _) rfl) rfl ?_
  exact ⟨zeroPack, fun _ => 0, by rw [HZ.out]; rfl, (fun h => by rw [HZ.out] at h; cases h), rfl, zeroPack_one, (Below.refl _ _).alloc (Nat.le_refl _) _⟩
set_option maxRecDepth 10000 in
theorem packBits_any (a : Option Addr) (c B : Nat) (xs : List Int) (w : World) (hx : Ints .i64 w B a xs) (hB : B ≤ w.heap.size) :
    Calls Try.prog 72 #[.slice a xs.length c] w (PackPost xs w) := by
  by_cases h : xs.length ≤ 1024
  · exact packBits_small a c B xs w hx hB h
  · exact packBits_long a c xs w (by omega)

end Go.Proofs.Ytnmhiagnmfpipaa
