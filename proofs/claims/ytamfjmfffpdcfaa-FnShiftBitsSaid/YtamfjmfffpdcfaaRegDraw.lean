/-
  How the laws of chapter 3 draw taps, seeds and numbers: what comes out, and what it leaves. Condition: fewer than 2^39 numbers were picked before.
-/
import Derived.Test.YtamfjmfffpdcfaaDraw8
import Derived.Test.YtamfjmfffpdcfaaReg
import Derived.Deep.Cut
namespace Go.Proofs.Ytamfjmfffpdcfaa
open Go.RowKit

/-- What drawing taps and a seed leaves. -/
def TapsPost (R p : Nat) (w : World) (e : Ending) (w' : World) : Prop :=
  ∃ g s : Int, (-10 ≤ g ∧ g ≤ 131073) ∧ (0 ≤ s ∧ s ≤ 65536) ∧ e = .returned (.tuple #[.int .i64 g, .int .i64 s]) ∧ ∃ p', p' ≤ p + 10 ∧ Rd w' R p' ∧ w.grownBy w' (some R)
/-- The end of the draw of taps: the seed drawn so far, or one of two others. -/
theorem taps_pick {w1 w3 : World} {k R : Nat} (g3 : (w1.alloc (.cells #[.int .i64 0, .int .i64 65536] 3)).grownBy w3 (some R)) (hR : R < w1.heap.size) (hk : k < 2) :
    ∃ x : Int, (0 ≤ x ∧ x ≤ 65536) ∧ w3.cell? ⟨w1.heap.size, k, none⟩ = some (.int .i64 x) := by
  rw [cell_grown g3 rfl hR]
  match k, hk with
  | 0, _ => exact ⟨_, ⟨by decide, by decide⟩, rfl⟩
  | 1, _ => exact ⟨_, ⟨by decide, by decide⟩, rfl⟩
  | (m + 2), h => exact absurd h (by omega)

set_option maxHeartbeats 2000000 in
theorem taps_any (R p : Nat) (n : Int) (w : World) (hr : Rd w R p) (hp : p ≤ 549755813000) (hn1 : 1 ≤ n) (hn2 : n ≤ 1000000) :
    Calls Try.prog 36 #[.pointer (some ⟨R, 0, none⟩), .int .i64 n] w (TapsPost R p w) := by
  have HR0 := Lib.hid hr
  have hRw := hr.lt
  clear hr
  go_enter Try.func36, Try.ntmps36
  go_wp2_with fail
  refine (generator_any R p n w HR0.out (by omega) hn1 hn2).mono ?_
  rintro e w1 ⟨g, ⟨hg1, hg2⟩, rfl, p1, hp1, r1, g1⟩
  have R1 := Lib.hid r1
  have G1 := Lib.hid g1
  have s1 : w.heap.size ≤ w1.heap.size := g1.size
  clear r1 g1
  go_wp2_with fail
  refine (pick_any R p1 200 w1 R1.out (by omega) (by omega) (by omega)).mono ?_
  rintro e w2 ⟨v2, ⟨hv2, hv2'⟩, rfl, r2, g2⟩
  have R2 := Lib.hid r2
  have G2 := Lib.hid (grown_trans G1.out g2)
  have s2 : w.heap.size ≤ w2.heap.size := by have := g2.size; omega
  clear r2 g2 R1 G1
  go_wp2_with fail
  refine (specGenValid_any g w2).mono ?_
  rintro e w' ⟨rfl, rfl⟩
  go_upto_if 15 with (fail)
  go_cut [7] from 14 (fun s wc => ∃ x : Int, s = .int .i64 x ∧ (0 ≤ x ∧ x ≤ 65536) ∧ ∃ p', p' ≤ p1 + 2 ∧ Rd wc R p' ∧ w.grownBy wc (some R))
  case rest =>
    obtain ⟨x, rfl, ⟨hx0, hx1⟩, p3, hp3, r3, g3⟩ := hcut
    have R3 := Lib.hid r3
    have G3 := Lib.hid g3
    have s3 : w.heap.size ≤ wc.heap.size := g3.size
    clear r3 g3 R2 G2
    go_wp2_with fail
    refine (odd_any R p3 n wc R3.out (by omega) hn1 (by omega)).mono ?_
    rintro e w4 ⟨b4, rfl, r4, g4⟩
    have R4 := Lib.hid r4
    have G4 := Lib.hid (grown_trans G3.out g4)
    have s4 : w.heap.size ≤ w4.heap.size := by have := g4.size; omega
    clear r4 g4 R3 G3
    cases b4
    · go_wp2
      go_ret2
      exact ⟨g, x, ⟨hg1, hg2⟩, ⟨hx0, hx1⟩, rfl, p3 + 1, by omega, R4.out, G4.out⟩
    · go_wp2_with fail
      refine (pick_any R (p3 + 1) 2 _ (R4.out.alloc _) (by omega) (by omega) (by omega)).mono ?_
      rintro e w5 ⟨v5, ⟨hv5, hv5'⟩, rfl, r5, g5⟩
      obtain ⟨k, rfl⟩ := Int.eq_ofNat_of_zero_le hv5
      have hk : k < 2 := by omega
      obtain ⟨y, hy, hc⟩ := taps_pick g5 (by omega) hk
      have HY := Lib.hid hy
      have R5 := Lib.hid r5
      have G5 := Lib.hid (grown_trans (grown_alloc G4.out _) g5)
      clear r5 g5 hy hv5 hv5'
      go_wp2
      go_ret2
      exact ⟨g, y, ⟨hg1, hg2⟩, HY.out, rfl, p3 + 1 + 1, by omega, R5.out, G5.out⟩
  case first =>
    cases hg : genOk g
    · go_wp2
      go_meet
      case rel => exact ⟨1 + v2, by go_num, ⟨by omega, by omega⟩, p1 + 1, by omega, R2.out, G2.out⟩
    · have hl := (deg_lt hg).2
      have hl1 := (deg_lt hg).1
      obtain ⟨g3', g4', _⟩ := genOk_parts hg
      have hD := fun W => l2Degree_any g W (by omega) g4'
      generalize deg g = d at *
      clear g3' g4'
      go_wp2_with fail
      refine (pick_any R (p1 + 1) 200 w2 R2.out (by omega) (by omega) (by omega)).mono ?_
      rintro e w3 ⟨v3, ⟨hv3, hv3'⟩, rfl, r3, g3⟩
      have R3 := Lib.hid r3
      have G3 := Lib.hid (grown_trans G2.out g3)
      clear r3 g3 R2 G2
      have hd : d = 1 ∨ d = 2 ∨ d = 3 ∨ d = 4 ∨ d = 5 ∨ d = 6 ∨ d = 7 ∨ d = 8 ∨ d = 9 ∨ d = 10 ∨ d = 11 ∨ d = 12 ∨ d = 13 ∨ d = 14 ∨ d = 15 ∨ d = 16 := by omega
      have HD := Lib.hid hD
      clear hl hl1 hD hg
      rcases hd with rfl | rfl | rfl | rfl | rfl | rfl | rfl | rfl | rfl | rfl | rfl | rfl | rfl | rfl | rfl | rfl
      all_goals
        go_wp2_with fail
        refine (HD.out w3).mono ?_
        rintro e w' ⟨rfl, rfl⟩
        go_wp2
        go_meet
        case rel => exact ⟨_, rfl, ⟨by omega, by omega⟩, p1 + 1 + 1, by omega, R3.out, G3.out⟩
/-- Drawn taps and a drawn seed. -/
def TapsTwo (w : World) (e : Ending) (w' : World) : Prop :=
  ∃ g s : Int, (-10 ≤ g ∧ g ≤ 131073) ∧ (0 ≤ s ∧ s ≤ 65536) ∧ e = .returned (.tuple #[.int .i64 g, .int .i64 s]) ∧ Below w.heap.size w w'
/-- A drawn list, taps and a seed. -/
def ListTaps (w : World) (e : Ending) (w' : World) : Prop :=
  ∃ xs a c g s, e = .returned (.tuple #[.slice a xs.length c, .int .i64 g, .int .i64 s]) ∧ xs.length ≤ 40 ∧ (-10 ≤ g ∧ g ≤ 131073) ∧ (0 ≤ s ∧ s ≤ 65536) ∧ Ints .i64 w' w'.heap.size a xs ∧ Below w.heap.size w w'
set_option maxHeartbeats 400000 in
theorem drawShiftPeriod_any (a : Option Addr) (c : Nat) (ds : List Int) (w : World) (hx : Ints .u8 w w.heap.size a ds) (hw : ∀ n ∈ ds, isByte n) (hc : ds.length ≤ c) (hcm : c ≤ maxLen) :
    Calls Try.prog 20 #[.slice a ds.length c] w (TapsTwo w) := by
  have hl : ds.length ≤ maxLen := Nat.le_trans hc hcm
  go_enter Try.func20, Try.ntmps20
  go_wp2_with fail
  refine (open_any a c ds w hx hw hc hl hcm).mono ?_
  rintro e w1 ⟨rfl, r1, b1⟩
  have R1 := Lib.hid r1
  have B1 := Lib.hid b1
  clear hx hw hc hcm hl r1 b1
  go_wp2_with fail
  refine (taps_any w.heap.size 0 9 w1 R1.out (by omega) (by omega) (by omega)).mono ?_
  rintro e w2 ⟨g, s, hg, hs, rfl, p2, _, _, g2⟩
  have HP : Hid (TapsTwo w (.returned (.tuple #[.int .i64 g, .int .i64 s])) w2) := ⟨g, s, hg, hs, rfl, below_R B1.out g2⟩
  clear g2 hg hs
  go_wp2
  go_ret2
  exact HP.out
set_option maxHeartbeats 1000000 in
theorem drawScramble_any (a : Option Addr) (c : Nat) (ds : List Int) (w : World) (hx : Ints .u8 w w.heap.size a ds) (hw : ∀ n ∈ ds, isByte n) (hc : ds.length ≤ c) (hcm : c ≤ maxLen) :
    Calls Try.prog 24 #[.slice a ds.length c] w (ListTaps w) := by
  have hl : ds.length ≤ maxLen := Nat.le_trans hc hcm
  go_enter Try.func24, Try.ntmps24
  go_wp2_with fail
  refine (open_any a c ds w hx hw hc hl hcm).mono ?_
  rintro e w1 ⟨rfl, r1, b1⟩
  have R1 := Lib.hid r1
  have B1 := Lib.hid b1
  have hR1 : w.heap.size < w1.heap.size := r1.lt
  clear hx hw hc hcm hl r1 b1
  go_wp2_with fail
  refine (bits_any w.heap.size 0 30 12 w1 R1.out (by omega) (by omega) (by omega) (by omega)).mono ?_
  rintro e w2 ⟨xs, ad, n, cap, p2, rfl, hn, hsm, hgr, hrd, hp2, hgn⟩
  have HG2 := Lib.hid hgr
  have R2 := Lib.hid hrd
  have B2 := Lib.hid (below_R B1.out hgn)
  obtain rfl : xs.length = n := hgr.len
  clear hsm hgr hrd hgn R1 B1
  go_wp2_with fail
  refine (taps_any w.heap.size p2 14 w2 R2.out (by omega) (by omega) (by omega)).mono ?_
  rintro e w3 ⟨g, s, hg, hs, rfl, p3, _, _, g3⟩
  have HP : Hid (ListTaps w (.returned (.tuple #[.slice (some ad) xs.length cap, .int .i64 g, .int .i64 s])) w3) :=
    ⟨xs, some ad, cap, g, s, rfl, by omega, hg, hs, (HG2.out.grownR g3 hR1).ints, below_R B2.out g3⟩
  clear g3 hg hs
  go_wp2
  go_ret3
  exact HP.out
end Go.Proofs.Ytamfjmfffpdcfaa
