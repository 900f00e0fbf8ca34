/-
  The laws of the exactness of WalshCode, SpreadBits, AddChips, DespreadSums and DespreadBits, walked: they return true for all arguments, and write into nothing that was there. No condition.
-/
import Derived.Test.YtnnknfpkbhcghaaWs4
import Derived.Test.YtnnknfpkbhcghaaWs6
import Derived.Test.YtnnknfpkbhcghaaWs8
import Derived.Test.YtnnknfpkbhcghaaOne
namespace Go.Proofs.Ytnnknfpkbhcghaa
open Go.RowKit

theorem specSpreadBits_any (a : Option Addr) (c : Nat) (xs : List Int) (k : Int) (w : World) (hx : Ints .i64 w w.heap.size a xs) (hl : xs.length ≤ maxLen) :
    Calls Try.prog 21 #[.slice a xs.length c, .int .i64 k] w (ListPostC (sprOr xs k) w) :=
  (specSpreadBits_new a c xs k w hx hl).mono fun _ _ h => h.post
set_option maxHeartbeats 2000000 in
theorem walkExactWalshCode (k : Int) (w : World) :
    Calls Try.prog 9 #[.int .i64 k] w fun e w' => e = .returned (.bool true) ∧ Below w.heap.size w w' := by
  obtain ⟨S, hS⟩ : ∃ S, S = walOr k := ⟨_, rfl⟩
  have hSl : S.length ≤ 1048576 := by rw [hS]; have := walOr_length k; omega
  have HS := Lib.hid hS
  clear hS
  have z3 : decide (S = S) = true := by simp
  go_enter Try.func9, Try.ntmps9
  go_wp2_with fail
  refine (specWalshCode_any k w).mono ?_
  rw [← HS.out]
  rintro e w1 ⟨v0, cv0, rfl, _, o1, b1⟩
  have W1 := Lib.hid (own_of_list o1).ints
  have B1 := Lib.hid b1
  clear o1 b1
  go_wp2_with fail
  refine (walshCode_any k w1).mono ?_
  rw [← HS.out]
  rintro e w2 ⟨g0, cg0, rfl, _, o2, b2⟩
  have G2 := Lib.hid (own_of_list o2)
  have W2 := Lib.hid (W1.out.below b2)
  have B2 := Lib.hid (Below.next B1.out (Nat.le_refl _) b2)
  have s12 : w1.heap.size ≤ w2.heap.size := b2.size
  clear o2 b2
  go_wp2_with fail
  refine (eqIntS_any _ _ _ _ w2.heap.size w1.heap.size S S w2 G2.out.ints W2.out hSl).mono ?_
  rintro e w3 ⟨rfl, n3, rfl⟩
  go_wp2_with fail
  refine (markIntS_own g0 _ 1 w1.heap.size w2.heap.size S (w2.drewN n3) G2.out hSl (by omega)).mono ?_
  rintro e w4 ⟨rfl, g4, k4⟩
  have G4 := Lib.hid g4
  have W4 := Lib.hid (Ints.out (w := w2.drewN n3) W2.out k4 (Nat.le_refl _) (by show w1.heap.size ≤ w2.heap.size; omega))
  have B4 := Lib.hid ((below_drewN B2.out n3).trans ((k4.below (by show w1.heap.size ≤ w2.heap.size; omega)).mono B1.out.size))
  have s24 : w2.heap.size ≤ w4.heap.size := k4.size
  clear g4 k4 G2 W2
  go_wp2_with fail
  refine (heldIntS_any g0 w2.heap.size _ S.length 1 w4 G4.out.ints hSl (by omega)).mono ?_
  rintro e w5 ⟨rfl, rfl⟩
  go_wp2_with fail
  refine (walshCode_any k w4).mono ?_
  rw [← HS.out]
  rintro e w6 ⟨h0, ch0, rfl, _, o6, b6⟩
  have H6 := Lib.hid (own_of_list o6).ints
  have G6 := Lib.hid (G4.out.next b6)
  have W6 := Lib.hid (W4.out.below (b6.mono (by omega)))
  have B6 := Lib.hid (Below.next B4.out (Nat.le_refl _) b6)
  clear o6 b6 G4 W4
  go_wp2_with fail
  refine (eqIntS_any _ _ _ _ w6.heap.size w1.heap.size S S w6 H6.out W6.out hSl).mono ?_
  rintro e w7 ⟨rfl, n7, rfl⟩
  go_wp2_with fail
  refine (heldIntS_any g0 w2.heap.size _ S.length 1 (w6.drewN n7) G6.out.ints hSl (by omega)).mono ?_
  rintro e w8 ⟨rfl, rfl⟩
  go_wp2
  go_ret
  exact ⟨rfl, below_drewN B6.out n7⟩

set_option maxHeartbeats 2000000 in
theorem walkExactSpreadBits (a : Option Addr) (c : Nat) (xs : List Int) (k : Int) (w : World) (hx : Ints .i64 w w.heap.size a xs) (_hw : ∀ n ∈ xs, (Lit.int .i64 n).wf = true) :
    Calls Try.prog 10 #[.slice a xs.length c, .int .i64 k] w fun e w' => e = .returned (.bool true) ∧ Below w.heap.size w w' := by
  have HX := Lib.hid hx
  clear hx _hw
  by_cases hl : xs.length ≤ 1048576
  · have HL := Lib.hid (show xs.length ≤ maxLen by unfold maxLen; omega)
    obtain ⟨S, hS⟩ : ∃ S, S = sprOr xs k := ⟨_, rfl⟩
    have hSl : S.length ≤ 1048576 := by rw [hS]; exact Nat.le_trans (sprOr_length xs k) (by decide)
    have HS := Lib.hid hS
    clear hS
    have z1 : decide (xs = xs) = true := by simp
    have z3 : decide (S = S) = true := by simp
    go_enter Try.func10, Try.ntmps10
    go_wp2_with fail
    refine (toIntS_ints a c xs w HX.out hl).mono ?_
    rintro e w1 ⟨rfl, p1, b1⟩
    have P1 := Lib.hid p1
    have B1 := Lib.hid b1
    clear p1 b1
    go_wp2_with fail
    refine (specSpreadBits_any _ _ xs k w1 P1.out HL.out).mono ?_
    rw [← HS.out]
    rintro e w3 ⟨v0, cv0, rfl, _, o3, b3⟩
    have W3 := Lib.hid (own_of_list o3).ints
    have B3 := Lib.hid (Below.next B1.out (Nat.le_refl _) b3)
    clear P1 B1 o3 b3
    go_wp2_with fail
    refine (toIntS_own a c xs w3 (HX.out.next B3.out) hl).mono ?_
    rintro e w4 ⟨x0, rfl, p4, b4⟩
    have X4 := Lib.hid p4
    have W4 := Lib.hid (W3.out.below b4)
    have B4 := Lib.hid (Below.next B3.out (Nat.le_refl _) b4)
    have s34 : w3.heap.size ≤ w4.heap.size := b4.size
    clear p4 b4
    go_wp2_with fail
    refine (spreadBits_any _ _ xs k w4 X4.out.ints).mono ?_
    rw [← HS.out]
    rintro e w6 ⟨g0, cg0, rfl, _, o6, b6⟩
    have G6 := Lib.hid (own_of_list o6)
    have X6 := Lib.hid (X4.out.next b6)
    have W6 := Lib.hid (W4.out.below (b6.mono (by omega)))
    have B6 := Lib.hid (Below.next B4.out (Nat.le_refl _) b6)
    have s56 : w4.heap.size ≤ w6.heap.size := b6.size
    clear o6 b6
    go_wp2_with fail
    refine (eqIntS_any _ _ _ _ w6.heap.size w3.heap.size S S w6 G6.out.ints W6.out hSl).mono ?_
    rintro e w7 ⟨rfl, n7, rfl⟩
    go_wp2_with fail
    refine (toIntS_ints a c xs _ (HX.out.next (below_drewN B6.out n7)) hl).mono ?_
    rintro e w8 ⟨rfl, p8, b8⟩
    have P8 := Lib.hid p8
    have G8 := Lib.hid (Own.next (w := w6.drewN n7) G6.out b8)
    have X8 := Lib.hid (Own.next (w := w6.drewN n7) X6.out b8)
    have W8 := Lib.hid (Ints.below (w := w6.drewN n7) W6.out (b8.mono (by show w3.heap.size ≤ w6.heap.size; omega)))
    have B8 := Lib.hid (Below.next (below_drewN B6.out n7) (Nat.le_refl _) b8)
    have s68 : w6.heap.size ≤ w8.heap.size := b8.size
    clear p8 b8
    go_wp2_with fail
    refine (eqIntS_any _ _ _ _ w4.heap.size w8.heap.size xs xs w8 X8.out.ints P8.out hl).mono ?_
    rintro e w11 ⟨rfl, n11, rfl⟩
    clear P8 X6 X4 G6 W3 W4 W6
    go_wp2_with fail
    refine (markIntS_own x0 _ 1 w3.heap.size w4.heap.size xs (w8.drewN n11) X8.out hl (by omega)).mono ?_
    rintro e w13 ⟨rfl, _, k13⟩
    have G13 := Lib.hid (Own.keep (w := w8.drewN n11) G8.out k13 (.inr (Nat.le_refl _)))
    have W13 := Lib.hid (Ints.out (w := w8.drewN n11) W8.out k13 (Nat.le_refl _) (by show w3.heap.size ≤ w8.heap.size; omega))
    have B13 := Lib.hid ((below_drewN B8.out n11).trans ((k13.below (by show w3.heap.size ≤ w8.heap.size; omega)).mono B3.out.size))
    have s13 : w8.heap.size ≤ w13.heap.size := k13.size
    clear k13 X8 G8 W8
    have hk2 : ¬ (((1 + xs.length : Nat) : Int) < 0) := by omega
    go_wp2_with fail
    refine (eqIntS_any _ _ _ _ w6.heap.size w3.heap.size S S w13 G13.out.ints W13.out hSl).mono ?_
    rintro e w14 ⟨rfl, n14, rfl⟩
    go_wp2_with fail
    refine (markIntS_own g0 _ 1 w4.heap.size w6.heap.size S (w13.drewN n14) G13.out hSl (by omega)).mono ?_
    rintro e w15 ⟨rfl, g15, k15⟩
    have G15 := Lib.hid g15
    have W15 := Lib.hid (Ints.out (w := w13.drewN n14) W13.out k15 (by omega) (by show w3.heap.size ≤ w13.heap.size; omega))
    have B15 := Lib.hid ((below_drewN B13.out n14).trans ((k15.below (by show w4.heap.size ≤ w13.heap.size; omega)).mono B4.out.size))
    have s15 : w13.heap.size ≤ w15.heap.size := k15.size
    clear k15 g15 G13 W13
    go_wp2_with fail
    refine (heldIntS_any g0 w6.heap.size _ S.length 1 w15 G15.out.ints hSl (by omega)).mono ?_
    rintro e w16 ⟨rfl, rfl⟩
    go_wp2_with fail
    refine (toIntS_ints a c xs w15 (HX.out.next B15.out) hl).mono ?_
    rintro e w18 ⟨rfl, p18, b18⟩
    have P18 := Lib.hid p18
    have G18 := Lib.hid (G15.out.next b18)
    have W18 := Lib.hid (W15.out.below (b18.mono (by omega)))
    have B18 := Lib.hid (Below.next B15.out (Nat.le_refl _) b18)
    have s18 : w15.heap.size ≤ w18.heap.size := b18.size
    clear p18 b18 G15 W15
    go_wp2_with fail
    refine (spreadBits_any _ _ xs k w18 P18.out).mono ?_
    rw [← HS.out]
    rintro e w19 ⟨h0, ch0, rfl, _, o19, b19⟩
    have H19 := Lib.hid (own_of_list o19).ints
    have G19 := Lib.hid (G18.out.next b19)
    have W19 := Lib.hid (W18.out.below (b19.mono (by omega)))
    have B19 := Lib.hid (Below.next B18.out (Nat.le_refl _) b19)
    clear o19 b19 G18 W18 P18
    go_wp2_with fail
    refine (eqIntS_any _ _ _ _ w19.heap.size w3.heap.size S S w19 H19.out W19.out hSl).mono ?_
    rintro e w20 ⟨rfl, n20, rfl⟩
    go_wp2_with fail
    refine (heldIntS_any g0 w6.heap.size _ S.length 1 (w19.drewN n20) G19.out.ints hSl (by omega)).mono ?_
    rintro e w21 ⟨rfl, rfl⟩
    go_wp2
    go_ret
    exact ⟨rfl, below_drewN B19.out n20⟩
  · go_enter Try.func10, Try.ntmps10
    go_wp2
    go_ret
    exact ⟨rfl, Below.refl _ _⟩

set_option maxHeartbeats 2000000 in
theorem walkExactDespreadSums (a : Option Addr) (c : Nat) (xs : List Int) (k : Int) (w : World) (hx : Ints .i64 w w.heap.size a xs) (_hw : ∀ n ∈ xs, (Lit.int .i64 n).wf = true) :
    Calls Try.prog 12 #[.slice a xs.length c, .int .i64 k] w fun e w' => e = .returned (.bool true) ∧ Below w.heap.size w w' := by
  have HX := Lib.hid hx
  clear hx _hw
  by_cases hl : xs.length ≤ 1048576
  · have HL := Lib.hid (show xs.length ≤ maxLen by unfold maxLen; omega)
    obtain ⟨S, hS⟩ : ∃ S, S = dsOr xs k := ⟨_, rfl⟩
    have hSl : S.length ≤ 1048576 := by rw [hS]; exact Nat.le_trans (dsOr_length xs k) (by decide)
    have HS := Lib.hid hS
    clear hS
    have z1 : decide (xs = xs) = true := by simp
    have z3 : decide (S = S) = true := by simp
    go_enter Try.func12, Try.ntmps12
    go_wp2_with fail
    refine (toIntS_ints a c xs w HX.out hl).mono ?_
    rintro e w1 ⟨rfl, p1, b1⟩
    have P1 := Lib.hid p1
    have B1 := Lib.hid b1
    clear p1 b1
    go_wp2_with fail
    refine (specDespreadSums_any _ _ xs k w1 P1.out HL.out).mono ?_
    rw [← HS.out]
    rintro e w3 ⟨v0, cv0, rfl, _, o3, b3⟩
    have W3 := Lib.hid (own_of_list o3).ints
    have B3 := Lib.hid (Below.next B1.out (Nat.le_refl _) b3)
    clear P1 B1 o3 b3
    go_wp2_with fail
    refine (toIntS_own a c xs w3 (HX.out.next B3.out) hl).mono ?_
    rintro e w4 ⟨x0, rfl, p4, b4⟩
    have X4 := Lib.hid p4
    have W4 := Lib.hid (W3.out.below b4)
    have B4 := Lib.hid (Below.next B3.out (Nat.le_refl _) b4)
    have s34 : w3.heap.size ≤ w4.heap.size := b4.size
    clear p4 b4
    go_wp2_with fail
    refine (despreadSums_any _ _ xs k w4 X4.out.ints (Nat.le_refl _)).mono ?_
    rw [← HS.out]
    rintro e w6 ⟨g0, cg0, rfl, _, o6, b6⟩
    have G6 := Lib.hid (own_of_list o6)
    have X6 := Lib.hid (X4.out.next b6)
    have W6 := Lib.hid (W4.out.below (b6.mono (by omega)))
    have B6 := Lib.hid (Below.next B4.out (Nat.le_refl _) b6)
    have s56 : w4.heap.size ≤ w6.heap.size := b6.size
    clear o6 b6
    go_wp2_with fail
    refine (eqIntS_any _ _ _ _ w6.heap.size w3.heap.size S S w6 G6.out.ints W6.out hSl).mono ?_
    rintro e w7 ⟨rfl, n7, rfl⟩
    go_wp2_with fail
    refine (toIntS_ints a c xs _ (HX.out.next (below_drewN B6.out n7)) hl).mono ?_
    rintro e w8 ⟨rfl, p8, b8⟩
    have P8 := Lib.hid p8
    have G8 := Lib.hid (Own.next (w := w6.drewN n7) G6.out b8)
    have X8 := Lib.hid (Own.next (w := w6.drewN n7) X6.out b8)
    have W8 := Lib.hid (Ints.below (w := w6.drewN n7) W6.out (b8.mono (by show w3.heap.size ≤ w6.heap.size; omega)))
    have B8 := Lib.hid (Below.next (below_drewN B6.out n7) (Nat.le_refl _) b8)
    have s68 : w6.heap.size ≤ w8.heap.size := b8.size
    clear p8 b8
    go_wp2_with fail
    refine (eqIntS_any _ _ _ _ w4.heap.size w8.heap.size xs xs w8 X8.out.ints P8.out hl).mono ?_
    rintro e w11 ⟨rfl, n11, rfl⟩
    clear P8 X6 X4 G6 W3 W4 W6
    go_wp2_with fail
    refine (markIntS_own x0 _ 1 w3.heap.size w4.heap.size xs (w8.drewN n11) X8.out hl (by omega)).mono ?_
    rintro e w13 ⟨rfl, _, k13⟩
    have G13 := Lib.hid (Own.keep (w := w8.drewN n11) G8.out k13 (.inr (Nat.le_refl _)))
    have W13 := Lib.hid (Ints.out (w := w8.drewN n11) W8.out k13 (Nat.le_refl _) (by show w3.heap.size ≤ w8.heap.size; omega))
    have B13 := Lib.hid ((below_drewN B8.out n11).trans ((k13.below (by show w3.heap.size ≤ w8.heap.size; omega)).mono B3.out.size))
    have s13 : w8.heap.size ≤ w13.heap.size := k13.size
    clear k13 X8 G8 W8
    have hk2 : ¬ (((1 + xs.length : Nat) : Int) < 0) := by omega
    go_wp2_with fail
    refine (eqIntS_any _ _ _ _ w6.heap.size w3.heap.size S S w13 G13.out.ints W13.out hSl).mono ?_
    rintro e w14 ⟨rfl, n14, rfl⟩
    go_wp2_with fail
    refine (markIntS_own g0 _ 1 w4.heap.size w6.heap.size S (w13.drewN n14) G13.out hSl (by omega)).mono ?_
    rintro e w15 ⟨rfl, g15, k15⟩
    have G15 := Lib.hid g15
    have W15 := Lib.hid (Ints.out (w := w13.drewN n14) W13.out k15 (by omega) (by show w3.heap.size ≤ w13.heap.size; omega))
    have B15 := Lib.hid ((below_drewN B13.out n14).trans ((k15.below (by show w4.heap.size ≤ w13.heap.size; omega)).mono B4.out.size))
    have s15 : w13.heap.size ≤ w15.heap.size := k15.size
    clear k15 g15 G13 W13
    go_wp2_with fail
    refine (heldIntS_any g0 w6.heap.size _ S.length 1 w15 G15.out.ints hSl (by omega)).mono ?_
    rintro e w16 ⟨rfl, rfl⟩
    go_wp2_with fail
    refine (toIntS_ints a c xs w15 (HX.out.next B15.out) hl).mono ?_
    rintro e w18 ⟨rfl, p18, b18⟩
    have P18 := Lib.hid p18
    have G18 := Lib.hid (G15.out.next b18)
    have W18 := Lib.hid (W15.out.below (b18.mono (by omega)))
    have B18 := Lib.hid (Below.next B15.out (Nat.le_refl _) b18)
    have s18 : w15.heap.size ≤ w18.heap.size := b18.size
    clear p18 b18 G15 W15
    go_wp2_with fail
    refine (despreadSums_any _ _ xs k w18 P18.out (Nat.le_refl _)).mono ?_
    rw [← HS.out]
    rintro e w19 ⟨h0, ch0, rfl, _, o19, b19⟩
    have H19 := Lib.hid (own_of_list o19).ints
    have G19 := Lib.hid (G18.out.next b19)
    have W19 := Lib.hid (W18.out.below (b19.mono (by omega)))
    have B19 := Lib.hid (Below.next B18.out (Nat.le_refl _) b19)
    clear o19 b19 G18 W18 P18
    go_wp2_with fail
    refine (eqIntS_any _ _ _ _ w19.heap.size w3.heap.size S S w19 H19.out W19.out hSl).mono ?_
    rintro e w20 ⟨rfl, n20, rfl⟩
    go_wp2_with fail
    refine (heldIntS_any g0 w6.heap.size _ S.length 1 (w19.drewN n20) G19.out.ints hSl (by omega)).mono ?_
    rintro e w21 ⟨rfl, rfl⟩
    go_wp2
    go_ret
    exact ⟨rfl, below_drewN B19.out n20⟩
  · go_enter Try.func12, Try.ntmps12
    go_wp2
    go_ret
    exact ⟨rfl, Below.refl _ _⟩

set_option maxHeartbeats 2000000 in
theorem walkExactDespreadBits (a : Option Addr) (c : Nat) (xs : List Int) (k : Int) (w : World) (hx : Ints .i64 w w.heap.size a xs) (_hw : ∀ n ∈ xs, (Lit.int .i64 n).wf = true) :
    Calls Try.prog 13 #[.slice a xs.length c, .int .i64 k] w fun e w' => e = .returned (.bool true) ∧ Below w.heap.size w w' := by
  have HX := Lib.hid hx
  clear hx _hw
  by_cases hl : xs.length ≤ 1048576
  · have HL := Lib.hid (show xs.length ≤ maxLen by unfold maxLen; omega)
    obtain ⟨S, hS⟩ : ∃ S, S = dbOr xs k := ⟨_, rfl⟩
    have hSl : S.length ≤ 1048576 := by rw [hS]; rw [dbOr_length]; exact Nat.le_trans (dsOr_length xs k) (by decide)
    have HS := Lib.hid hS
    clear hS
    have z1 : decide (xs = xs) = true := by simp
    have z3 : decide (S = S) = true := by simp
    go_enter Try.func13, Try.ntmps13
    go_wp2_with fail
    refine (toIntS_ints a c xs w HX.out hl).mono ?_
    rintro e w1 ⟨rfl, p1, b1⟩
    have P1 := Lib.hid p1
    have B1 := Lib.hid b1
    clear p1 b1
    go_wp2_with fail
    refine (specDespreadBits_any _ _ xs k w1 P1.out HL.out).mono ?_
    rw [← HS.out]
    rintro e w3 ⟨v0, cv0, rfl, _, o3, b3⟩
    have W3 := Lib.hid (own_of_list o3).ints
    have B3 := Lib.hid (Below.next B1.out (Nat.le_refl _) b3)
    clear P1 B1 o3 b3
    go_wp2_with fail
    refine (toIntS_own a c xs w3 (HX.out.next B3.out) hl).mono ?_
    rintro e w4 ⟨x0, rfl, p4, b4⟩
    have X4 := Lib.hid p4
    have W4 := Lib.hid (W3.out.below b4)
    have B4 := Lib.hid (Below.next B3.out (Nat.le_refl _) b4)
    have s34 : w3.heap.size ≤ w4.heap.size := b4.size
    clear p4 b4
    go_wp2_with fail
    refine (despreadBits_any _ _ xs k w4 X4.out.ints (Nat.le_refl _)).mono ?_
    rw [← HS.out]
    rintro e w6 ⟨g0, cg0, rfl, _, o6, b6⟩
    have G6 := Lib.hid (own_of_list o6)
    have X6 := Lib.hid (X4.out.next b6)
    have W6 := Lib.hid (W4.out.below (b6.mono (by omega)))
    have B6 := Lib.hid (Below.next B4.out (Nat.le_refl _) b6)
    have s56 : w4.heap.size ≤ w6.heap.size := b6.size
    clear o6 b6
    go_wp2_with fail
    refine (eqIntS_any _ _ _ _ w6.heap.size w3.heap.size S S w6 G6.out.ints W6.out hSl).mono ?_
    rintro e w7 ⟨rfl, n7, rfl⟩
    go_wp2_with fail
    refine (toIntS_ints a c xs _ (HX.out.next (below_drewN B6.out n7)) hl).mono ?_
    rintro e w8 ⟨rfl, p8, b8⟩
    have P8 := Lib.hid p8
    have G8 := Lib.hid (Own.next (w := w6.drewN n7) G6.out b8)
    have X8 := Lib.hid (Own.next (w := w6.drewN n7) X6.out b8)
    have W8 := Lib.hid (Ints.below (w := w6.drewN n7) W6.out (b8.mono (by show w3.heap.size ≤ w6.heap.size; omega)))
    have B8 := Lib.hid (Below.next (below_drewN B6.out n7) (Nat.le_refl _) b8)
    have s68 : w6.heap.size ≤ w8.heap.size := b8.size
    clear p8 b8
    go_wp2_with fail
    refine (eqIntS_any _ _ _ _ w4.heap.size w8.heap.size xs xs w8 X8.out.ints P8.out hl).mono ?_
    rintro e w11 ⟨rfl, n11, rfl⟩
    clear P8 X6 X4 G6 W3 W4 W6
    go_wp2_with fail
    refine (markIntS_own x0 _ 1 w3.heap.size w4.heap.size xs (w8.drewN n11) X8.out hl (by omega)).mono ?_
    rintro e w13 ⟨rfl, _, k13⟩
    have G13 := Lib.hid (Own.keep (w := w8.drewN n11) G8.out k13 (.inr (Nat.le_refl _)))
    have W13 := Lib.hid (Ints.out (w := w8.drewN n11) W8.out k13 (Nat.le_refl _) (by show w3.heap.size ≤ w8.heap.size; omega))
    have B13 := Lib.hid ((below_drewN B8.out n11).trans ((k13.below (by show w3.heap.size ≤ w8.heap.size; omega)).mono B3.out.size))
    have s13 : w8.heap.size ≤ w13.heap.size := k13.size
    clear k13 X8 G8 W8
    have hk2 : ¬ (((1 + xs.length : Nat) : Int) < 0) := by omega
    go_wp2_with fail
    refine (eqIntS_any _ _ _ _ w6.heap.size w3.heap.size S S w13 G13.out.ints W13.out hSl).mono ?_
    rintro e w14 ⟨rfl, n14, rfl⟩
    go_wp2_with fail
    refine (markIntS_own g0 _ 1 w4.heap.size w6.heap.size S (w13.drewN n14) G13.out hSl (by omega)).mono ?_
    rintro e w15 ⟨rfl, g15, k15⟩
    have G15 := Lib.hid g15
    have W15 := Lib.hid (Ints.out (w := w13.drewN n14) W13.out k15 (by omega) (by show w3.heap.size ≤ w13.heap.size; omega))
    have B15 := Lib.hid ((below_drewN B13.out n14).trans ((k15.below (by show w4.heap.size ≤ w13.heap.size; omega)).mono B4.out.size))
    have s15 : w13.heap.size ≤ w15.heap.size := k15.size
    clear k15 g15 G13 W13
    go_wp2_with fail
    refine (heldIntS_any g0 w6.heap.size _ S.length 1 w15 G15.out.ints hSl (by omega)).mono ?_
    rintro e w16 ⟨rfl, rfl⟩
    go_wp2_with fail
    refine (toIntS_ints a c xs w15 (HX.out.next B15.out) hl).mono ?_
    rintro e w18 ⟨rfl, p18, b18⟩
    have P18 := Lib.hid p18
    have G18 := Lib.hid (G15.out.next b18)
    have W18 := Lib.hid (W15.out.below (b18.mono (by omega)))
    have B18 := Lib.hid (Below.next B15.out (Nat.le_refl _) b18)
    have s18 : w15.heap.size ≤ w18.heap.size := b18.size
    clear p18 b18 G15 W15
    go_wp2_with fail
    refine (despreadBits_any _ _ xs k w18 P18.out (Nat.le_refl _)).mono ?_
    rw [← HS.out]
    rintro e w19 ⟨h0, ch0, rfl, _, o19, b19⟩
    have H19 := Lib.hid (own_of_list o19).ints
    have G19 := Lib.hid (G18.out.next b19)
    have W19 := Lib.hid (W18.out.below (b19.mono (by omega)))
    have B19 := Lib.hid (Below.next B18.out (Nat.le_refl _) b19)
    clear o19 b19 G18 W18 P18
    go_wp2_with fail
    refine (eqIntS_any _ _ _ _ w19.heap.size w3.heap.size S S w19 H19.out W19.out hSl).mono ?_
    rintro e w20 ⟨rfl, n20, rfl⟩
    go_wp2_with fail
    refine (heldIntS_any g0 w6.heap.size _ S.length 1 (w19.drewN n20) G19.out.ints hSl (by omega)).mono ?_
    rintro e w21 ⟨rfl, rfl⟩
    go_wp2
    go_ret
    exact ⟨rfl, below_drewN B19.out n20⟩
  · go_enter Try.func13, Try.ntmps13
    go_wp2
    go_ret
    exact ⟨rfl, Below.refl _ _⟩
set_option maxHeartbeats 2000000 in
theorem walkExactAddChips (a : Option Addr) (c : Nat) (xs : List Int) (a' : Option Addr) (c' : Nat) (ys : List Int) (w : World)
    (hx : Ints .i64 w w.heap.size a xs) (_hw : ∀ n ∈ xs, (Lit.int .i64 n).wf = true) (hy : Ints .i64 w w.heap.size a' ys) (_hw' : ∀ n ∈ ys, (Lit.int .i64 n).wf = true) :
    Calls Try.prog 11 #[.slice a xs.length c, .slice a' ys.length c'] w fun e w' => e = .returned (.bool true) ∧ Below w.heap.size w w' := by
  have HX := Lib.hid hx
  have HY := Lib.hid hy
  clear hx hy _hw _hw'
  by_cases hl : xs.length ≤ 1048576
  · by_cases hl' : ys.length ≤ 1048576
    · have HL := Lib.hid (show xs.length ≤ maxLen by unfold maxLen; omega)
      have HL' := Lib.hid (show ys.length ≤ maxLen by unfold maxLen; omega)
      obtain ⟨S, hS⟩ : ∃ S, S = adOr xs ys := ⟨_, rfl⟩
      have hSl : S.length ≤ 1048576 := by rw [hS]; exact Nat.le_trans (adOr_length xs ys) (by decide)
      have HS := Lib.hid hS
      clear hS
      have z1 : decide (xs = xs) = true := by simp
      have z2 : decide (ys = ys) = true := by simp
      have z3 : decide (S = S) = true := by simp
      go_enter Try.func11, Try.ntmps11
      go_wp2_with fail
      refine (toIntS_ints a c xs w HX.out hl).mono ?_
      rintro e w1 ⟨rfl, p1, b1⟩
      have P1 := Lib.hid p1
      have B1 := Lib.hid b1
      clear p1 b1
      go_wp2_with fail
      refine (toIntS_ints a' c' ys w1 (HY.out.next B1.out) hl').mono ?_
      rintro e w2 ⟨rfl, p2, b2⟩
      have P2 := Lib.hid p2
      have B2 := Lib.hid (Below.next B1.out (Nat.le_refl _) b2)
      have P1' := Lib.hid (P1.out.next b2)
      clear p2 b2
      go_wp2_with fail
      refine (specAddChips_any _ _ _ _ xs ys w2 P1'.out P2.out HL.out HL'.out).mono ?_
      rw [← HS.out]
      rintro e w3 ⟨v0, cv0, rfl, _, o3, b3⟩
      have W3 := Lib.hid (own_of_list o3).ints
      have B3 := Lib.hid (Below.next B2.out (Nat.le_refl _) b3)
      clear P1 P1' P2 B1 B2 o3 b3
      go_wp2_with fail
      refine (toIntS_own a c xs w3 (HX.out.next B3.out) hl).mono ?_
      rintro e w4 ⟨x0, rfl, p4, b4⟩
      have X4 := Lib.hid p4
      have W4 := Lib.hid (W3.out.below b4)
      have B4 := Lib.hid (Below.next B3.out (Nat.le_refl _) b4)
      have s34 : w3.heap.size ≤ w4.heap.size := b4.size
      clear p4 b4
      go_wp2_with fail
      refine (toIntS_own a' c' ys w4 (HY.out.next B4.out) hl').mono ?_
      rintro e w5 ⟨x1, rfl, p5, b5⟩
      have X5 := Lib.hid (X4.out.next b5)
      have Y5 := Lib.hid p5
      have W5 := Lib.hid (W4.out.below (b5.mono s34))
      have B5 := Lib.hid (Below.next B4.out (Nat.le_refl _) b5)
      have s45 : w4.heap.size ≤ w5.heap.size := b5.size
      clear p5 b5
      go_wp2_with fail
      refine (addChips_any _ _ _ _ xs ys w5 (X5.out.ints.more s45) Y5.out.ints).mono ?_
      rw [← HS.out]
      rintro e w6 ⟨g0, cg0, rfl, _, o6, b6⟩
      have G6 := Lib.hid (own_of_list o6)
      have X6 := Lib.hid (X5.out.next b6)
      have Y6 := Lib.hid (Y5.out.next b6)
      have W6 := Lib.hid (W5.out.below (b6.mono (by omega)))
      have B6 := Lib.hid (Below.next B5.out (Nat.le_refl _) b6)
      have s56 : w5.heap.size ≤ w6.heap.size := b6.size
      clear o6 b6
      go_wp2_with fail
      refine (eqIntS_any _ _ _ _ w6.heap.size w3.heap.size S S w6 G6.out.ints W6.out hSl).mono ?_
      rintro e w7 ⟨rfl, n7, rfl⟩
      go_wp2_with fail
      refine (toIntS_ints a c xs _ (HX.out.next (below_drewN B6.out n7)) hl).mono ?_
      rintro e w8 ⟨rfl, p8, b8⟩
      have P8 := Lib.hid p8
      have G8 := Lib.hid (Own.next (w := w6.drewN n7) G6.out b8)
      have X8 := Lib.hid (Own.next (w := w6.drewN n7) X6.out b8)
      have Y8 := Lib.hid (Own.next (w := w6.drewN n7) Y6.out b8)
      have W8 := Lib.hid (Ints.below (w := w6.drewN n7) W6.out (b8.mono (by show w3.heap.size ≤ w6.heap.size; omega)))
      have B8 := Lib.hid (Below.next (below_drewN B6.out n7) (Nat.le_refl _) b8)
      have s68 : w6.heap.size ≤ w8.heap.size := b8.size
      clear p8 b8
      go_wp2_with fail
      refine (eqIntS_any _ _ _ _ w4.heap.size w8.heap.size xs xs w8 X8.out.ints P8.out hl).mono ?_
      rintro e w9 ⟨rfl, n9, rfl⟩
      go_wp2_with fail
      refine (toIntS_ints a' c' ys _ (HY.out.next (below_drewN B8.out n9)) hl').mono ?_
      rintro e w10 ⟨rfl, p10, b10⟩
      have P10 := Lib.hid p10
      have G10 := Lib.hid (Own.next (w := w8.drewN n9) G8.out b10)
      have X10 := Lib.hid (Own.next (w := w8.drewN n9) X8.out b10)
      have Y10 := Lib.hid (Own.next (w := w8.drewN n9) Y8.out b10)
      have W10 := Lib.hid (Ints.below (w := w8.drewN n9) W8.out (b10.mono (by show w3.heap.size ≤ w8.heap.size; omega)))
      have B10 := Lib.hid (Below.next (below_drewN B8.out n9) (Nat.le_refl _) b10)
      have s80 : w8.heap.size ≤ w10.heap.size := b10.size
      clear p10 b10
      go_wp2_with fail
      refine (eqIntS_any _ _ _ _ w5.heap.size w10.heap.size ys ys w10 Y10.out.ints P10.out hl').mono ?_
      rintro e w11 ⟨rfl, n11, rfl⟩
      clear P8 P10 X8 X6 X5 X4 Y8 Y6 Y5 G8 G6 W3 W4 W5 W6 W8
      go_wp2_with fail
      refine (markIntS_own x0 _ 1 w3.heap.size w4.heap.size xs (w10.drewN n11) X10.out hl (by omega)).mono ?_
      rintro e w12 ⟨rfl, _, k12⟩
      have G12 := Lib.hid (Own.keep (w := w10.drewN n11) G10.out k12 (.inr s45))
      have Y12 := Lib.hid (Own.keep (w := w10.drewN n11) Y10.out k12 (.inr (Nat.le_refl _)))
      have W12 := Lib.hid (Ints.out (w := w10.drewN n11) W10.out k12 (Nat.le_refl _) (by show w3.heap.size ≤ w10.heap.size; omega))
      have B12 := Lib.hid ((below_drewN B10.out n11).trans ((k12.below (by show w3.heap.size ≤ w10.heap.size; omega)).mono B3.out.size))
      have s12 : w10.heap.size ≤ w12.heap.size := k12.size
      clear k12 X10 G10 Y10 W10
      go_wp2_with fail
      refine (markIntS_own x1 _ (1 + xs.length) w4.heap.size w5.heap.size ys w12 Y12.out hl' (by omega)).mono ?_
      rintro e w13 ⟨rfl, _, k13⟩
      have G13 := Lib.hid (G12.out.keep k13 (.inr (Nat.le_refl _)))
      have W13 := Lib.hid (W12.out.out k13 s34 (by omega))
      have B13 := Lib.hid (B12.out.trans ((k13.below (by omega)).mono B4.out.size))
      have s13 : w12.heap.size ≤ w13.heap.size := k13.size
      clear k13 G12 Y12 W12
      have hk2 : ¬ (((1 + xs.length + ys.length : Nat) : Int) < 0) := by omega
      go_wp2_with fail
      refine (eqIntS_any _ _ _ _ w6.heap.size w3.heap.size S S w13 G13.out.ints W13.out hSl).mono ?_
      rintro e w14 ⟨rfl, n14, rfl⟩
      go_wp2_with fail
      refine (markIntS_own g0 _ 1 w5.heap.size w6.heap.size S (w13.drewN n14) G13.out hSl (by omega)).mono ?_
      rintro e w15 ⟨rfl, g15, k15⟩
      have G15 := Lib.hid g15
      have W15 := Lib.hid (Ints.out (w := w13.drewN n14) W13.out k15 (by omega) (by show w3.heap.size ≤ w13.heap.size; omega))
      have B15 := Lib.hid ((below_drewN B13.out n14).trans ((k15.below (by show w5.heap.size ≤ w13.heap.size; omega)).mono B5.out.size))
      have s15 : w13.heap.size ≤ w15.heap.size := k15.size
      clear k15 g15 G13 W13
      go_wp2_with fail
      refine (heldIntS_any g0 w6.heap.size _ S.length 1 w15 G15.out.ints hSl (by omega)).mono ?_
      rintro e w16 ⟨rfl, rfl⟩
      go_wp2_with fail
      refine (toIntS_ints a c xs w15 (HX.out.next B15.out) hl).mono ?_
      rintro e w17 ⟨rfl, p17, b17⟩
      have P17 := Lib.hid p17
      have G17 := Lib.hid (G15.out.next b17)
      have W17 := Lib.hid (W15.out.below (b17.mono (by omega)))
      have B17 := Lib.hid (Below.next B15.out (Nat.le_refl _) b17)
      have s17 : w15.heap.size ≤ w17.heap.size := b17.size
      clear p17 b17 G15 W15
      go_wp2_with fail
      refine (toIntS_ints a' c' ys w17 (HY.out.next B17.out) hl').mono ?_
      rintro e w18 ⟨rfl, p18, b18⟩
      have P18 := Lib.hid p18
      have P17' := Lib.hid (P17.out.next b18)
      have G18 := Lib.hid (G17.out.next b18)
      have W18 := Lib.hid (W17.out.below (b18.mono (by omega)))
      have B18 := Lib.hid (Below.next B17.out (Nat.le_refl _) b18)
      have s18 : w17.heap.size ≤ w18.heap.size := b18.size
      clear p18 b18 G17 W17 P17
      go_wp2_with fail
      refine (addChips_any _ _ _ _ xs ys w18 P17'.out P18.out).mono ?_
      rw [← HS.out]
      rintro e w19 ⟨h0, ch0, rfl, _, o19, b19⟩
      have H19 := Lib.hid (own_of_list o19).ints
      have G19 := Lib.hid (G18.out.next b19)
      have W19 := Lib.hid (W18.out.below (b19.mono (by omega)))
      have B19 := Lib.hid (Below.next B18.out (Nat.le_refl _) b19)
      clear o19 b19 G18 W18 P17' P18
      go_wp2_with fail
      refine (eqIntS_any _ _ _ _ w19.heap.size w3.heap.size S S w19 H19.out W19.out hSl).mono ?_
      rintro e w20 ⟨rfl, n20, rfl⟩
      go_wp2_with fail
      refine (heldIntS_any g0 w6.heap.size _ S.length 1 (w19.drewN n20) G19.out.ints hSl (by omega)).mono ?_
      rintro e w21 ⟨rfl, rfl⟩
      go_wp2
      go_ret
      exact ⟨rfl, below_drewN B19.out n20⟩
    · go_enter Try.func11, Try.ntmps11
      go_wp2
      go_ret
      exact ⟨rfl, Below.refl _ _⟩
  · go_enter Try.func11, Try.ntmps11
    go_wp2
    go_ret
    exact ⟨rfl, Below.refl _ _⟩
end Go.Proofs.Ytnnknfpkbhcghaa
