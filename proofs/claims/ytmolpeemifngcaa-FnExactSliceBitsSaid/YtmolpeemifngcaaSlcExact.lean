/-
  The exact law of SliceBits, walked: it returns true for every list of samples and every number, and writes into nothing that was there. Condition: the list's length can be.
-/
import Derived.Test.YtmolpeemifngcaaSlc3
import Derived.Test.YtmolpeemifngcaaSig2
namespace Go.Proofs.Ytmolpeemifngcaa
open Go.RowKit

set_option maxHeartbeats 4000000 in
theorem walkExactSliceBits (a : Option Addr) (c : Nat) (ps : List Smp) (r : Int) (w : World) (hx : Sigs w w.heap.size a ps) (hc : ps.length ≤ c) (hm : c ≤ maxLen) :
    Calls Try.prog 12 #[.slice a ps.length c, .int .i64 r] w fun e w' => e = .returned (.bool true) ∧ Below w.heap.size w w' := by
  have HX := Lib.hid hx
  have HM := Lib.hid (Nat.le_trans hc hm)
  have HZ := Lib.hid (szSampleS_any a c ps.length w HM.out)
  clear hx hc hm
  by_cases hl : ps.length ≤ 1048576
  · rw [if_pos hl] at HZ
    have hl' : ¬ ((1048576 : Int) - (ps.length : Int) < 0) := by omega
    obtain ⟨L, hL⟩ : ∃ L, L = (1048576 : Int) - (ps.length : Int) := ⟨_, rfl⟩
    rw [← hL] at hl' HZ
    obtain ⟨S, hS⟩ : ∃ S, S = slcOr ps r := ⟨_, rfl⟩
    have hSl : S.length ≤ 1048576 := by rw [hS]; have := slcOr_length ps r; omega
    have HS := Lib.hid hS
    have z1 : decide (ps = ps) = true := by simp
    have z3 : decide (S = S) = true := by simp
    have HLs := Lib.hid hl
    clear hL hS
    go_enter Try.func12, Try.ntmps12
    go_wp2_with fail
    refine HZ.out.mono ?_
    rintro e w' ⟨rfl, rfl⟩
    go_wp2_with fail
    refine (toSampleS_sigs a c ps w HX.out hl).mono ?_
    rintro e w1 ⟨v1, rfl, p1, b1⟩
    have P1 := Lib.hid p1
    have B1 := Lib.hid b1
    clear p1 b1 hl'
    go_wp2_with fail
    refine (specSliceBits_any _ _ ps r w1 P1.out HM.out).mono ?_
    rw [← HS.out]
    rintro e w3 ⟨v0, cv0, rfl, _, o3, b3⟩
    have W3 := Lib.hid (own_of_list o3).ints
    have B3 := Lib.hid (Below.next B1.out (Nat.le_refl _) b3)
    clear P1 B1 o3 b3
    go_wp2_with fail
    refine (toSampleS_own a c ps w3 (HX.out.next B3.out) hl).mono ?_
    rintro e w4 ⟨x0, rfl, p4, b4⟩
    have X4 := Lib.hid p4
    have W4 := Lib.hid (W3.out.below b4)
    have B4 := Lib.hid (Below.next B3.out (Nat.le_refl _) b4)
    have s34 : w3.heap.size ≤ w4.heap.size := b4.size
    clear p4 b4
    go_wp2_with fail
    refine (sliceBits_any _ _ ps r w4 X4.out.sigs).mono ?_
    rw [← HS.out]
    rintro e w6 ⟨g0, cg0, rfl, _, o6, b6⟩
    have G6 := Lib.hid (own_of_list o6)
    have X6 := Lib.hid (X4.out.next b6)
    have W6 := Lib.hid (W4.out.below (b6.mono s34))
    have B6 := Lib.hid (Below.next B4.out (Nat.le_refl _) b6)
    have s46 : w4.heap.size ≤ w6.heap.size := b6.size
    clear o6 b6
    go_wp2_with fail
    refine (eqIntS_any _ _ _ _ w6.heap.size w3.heap.size S S w6 G6.out.ints W6.out hSl).mono ?_
    rintro e w7 ⟨rfl, n7, hw7⟩
    have G7 : Hid (Own .i64 3 w7 w4.heap.size w6.heap.size g0 S) := by rw [hw7]; exact G6.out
    have X7 : Hid (OwnSig 36 w7 w3.heap.size w4.heap.size x0 ps) := by rw [hw7]; exact X6.out
    have W7 : Hid (Ints .i64 w7 w3.heap.size v0 S) := by rw [hw7]; exact W6.out
    have B7 : Hid (Below w.heap.size w w7) := by rw [hw7]; exact below_drewN B6.out n7
    have s67 : w6.heap.size ≤ w7.heap.size := by rw [hw7]; exact Nat.le_refl _
    clear hw7 G6 X6 W6 X4 W4 W3
    go_wp2_with fail
    refine (toSampleS_sigs a c ps w7 (HX.out.next B7.out) hl).mono ?_
    rintro e w8 ⟨v8, rfl, p8, b8⟩
    have P8 := Lib.hid p8
    have G8 := Lib.hid (G7.out.next b8)
    have X8 := Lib.hid (X7.out.next b8)
    have W8 := Lib.hid (W7.out.below (b8.mono (by omega)))
    have B8 := Lib.hid (Below.next B7.out (Nat.le_refl _) b8)
    have s78 : w7.heap.size ≤ w8.heap.size := b8.size
    clear p8 b8 G7 X7 W7
    go_wp2_with fail
    refine (eqSampleS_any _ _ _ _ w4.heap.size w8.heap.size ps ps w8 X8.out.sigs P8.out (by omega) (Nat.le_refl _) hl).mono ?_
    rintro e w11 ⟨rfl, b11⟩
    have G11 := Lib.hid (G8.out.next b11)
    have X11 := Lib.hid (X8.out.next b11)
    have W11 := Lib.hid (W8.out.below (b11.mono (by omega)))
    have B11 := Lib.hid (Below.next B8.out (Nat.le_refl _) b11)
    have s811 : w8.heap.size ≤ w11.heap.size := b11.size
    clear b11 P8 G8 X8 W8
    go_wp2_with fail
    refine (markSampleS_own x0 _ 1 w3.heap.size w4.heap.size ps w11 X11.out hl (by omega)).mono ?_
    rintro e w13 ⟨rfl, _, k13⟩
    have G13 := Lib.hid (Own.keep G11.out k13 (.inr (Nat.le_refl _)))
    have W13 := Lib.hid (Ints.out W11.out k13 (Nat.le_refl _) (by omega))
    have B13 := Lib.hid (B11.out.trans ((k13.below (by omega)).mono B3.out.size))
    have s13 : w11.heap.size ≤ w13.heap.size := k13.size
    clear k13 X11 G11 W11
    have hk2 : ¬ (((1 + ps.length * 2 : Nat) : Int) < 0) := by omega
    go_wp2_with fail
    refine (eqIntS_any _ _ _ _ w6.heap.size w3.heap.size S S w13 G13.out.ints W13.out hSl).mono ?_
    rintro e w14 ⟨rfl, n14, hw14⟩
    have G14 : Hid (Own .i64 3 w14 w4.heap.size w6.heap.size g0 S) := by rw [hw14]; exact G13.out
    have W14 : Hid (Ints .i64 w14 w3.heap.size v0 S) := by rw [hw14]; exact W13.out
    have B14 : Hid (Below w.heap.size w w14) := by rw [hw14]; exact below_drewN B13.out n14
    have s14 : w13.heap.size ≤ w14.heap.size := by rw [hw14]; exact Nat.le_refl _
    clear hw14 G13 W13
    go_wp2_with fail
    refine (markIntS_own g0 _ 1 w4.heap.size w6.heap.size S w14 G14.out hSl (by omega)).mono ?_
    rintro e w15 ⟨rfl, g15, k15⟩
    have G15 := Lib.hid g15
    have W15 := Lib.hid (Ints.out W14.out k15 s34 (by omega))
    have B15 := Lib.hid (B14.out.trans ((k15.below (by omega)).mono B4.out.size))
    have s15 : w14.heap.size ≤ w15.heap.size := k15.size
    clear k15 g15 G14 W14
    go_wp2_with fail
    refine (heldIntS_any g0 w6.heap.size _ S.length 1 w15 G15.out.ints hSl (by omega)).mono ?_
    rintro e w16 ⟨rfl, rfl⟩
    go_wp2_with fail
    refine (toSampleS_sigs a c ps w15 (HX.out.next B15.out) hl).mono ?_
    rintro e w18 ⟨v18, rfl, p18, b18⟩
    have P18 := Lib.hid p18
    have G18 := Lib.hid (G15.out.next b18)
    have W18 := Lib.hid (W15.out.below (b18.mono (by omega)))
    have B18 := Lib.hid (Below.next B15.out (Nat.le_refl _) b18)
    have s18 : w15.heap.size ≤ w18.heap.size := b18.size
    clear p18 b18 G15 W15
    go_wp2_with fail
    refine (sliceBits_any _ _ ps r w18 P18.out).mono ?_
    rw [← HS.out]
    rintro e w19 ⟨h0, ch0, rfl, _, o19, b19⟩
    have H19 := Lib.hid (own_of_list o19).ints
    have G19 := Lib.hid (G18.out.next b19)
    have W19 := Lib.hid (W18.out.below (b19.mono (by omega)))
    have B19 := Lib.hid (Below.next B18.out (Nat.le_refl _) b19)
    have s19 : w18.heap.size ≤ w19.heap.size := b19.size
    clear o19 b19 G18 W18 P18
    go_wp2_with fail
    refine (eqIntS_any _ _ _ _ w19.heap.size w3.heap.size S S w19 H19.out W19.out hSl).mono ?_
    rintro e w20 ⟨rfl, n20, hw20⟩
    have G20 : Hid (Own .i64 3 w20 w4.heap.size w6.heap.size g0 (marks 1 S.length)) := by rw [hw20]; exact G19.out
    have B20 : Hid (Below w.heap.size w w20) := by rw [hw20]; exact below_drewN B19.out n20
    clear hw20 G19 W19 H19
    go_wp2_with fail
    refine (heldIntS_any g0 w6.heap.size _ S.length 1 w20 G20.out.ints hSl (by omega)).mono ?_
    rintro e w21 ⟨rfl, rfl⟩
    go_wp2
    go_ret
    exact ⟨rfl, B20.out⟩
  · rw [if_neg hl] at HZ
    go_enter Try.func12, Try.ntmps12
    go_wp2_with fail
    refine HZ.out.mono ?_
    rintro e w' ⟨rfl, rfl⟩
    go_wp2
    go_ret
    exact ⟨rfl, Below.refl _ _⟩
end Go.Proofs.Ytmolpeemifngcaa
