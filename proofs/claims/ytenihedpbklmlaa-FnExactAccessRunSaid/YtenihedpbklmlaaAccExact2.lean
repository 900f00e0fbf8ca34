/-
  The law of the exactness of AccessRun, walked: it returns true for all arguments, and writes into nothing that was there. No condition.
-/
import Derived.Test.YtenihedpbklmlaaAcc11
import Derived.Test.YtenihedpbklmlaaOne
namespace Go.Proofs.Ytenihedpbklmlaa
open Go.RowKit
theorem acOr_length (xs : List Int) : (acOr xs).length ≤ 1048576 := by
  cases h : acOk xs
  · rw [acOr_no h]; exact Nat.zero_le _
  · rw [acOr_len h]
    have := ((svOk_iff 2047 xs).1 (by rw [svOk_ac]; exact h)).1
    omega

set_option maxRecDepth 10000 in
set_option maxHeartbeats 2000000 in
theorem walkExactAccessRun (a : Option Addr) (c : Nat) (xs : List Int) (w : World) (hx : Ints .i64 w w.heap.size a xs) (_hw : ∀ n ∈ xs, (Lit.int .i64 n).wf = true) :
    Calls Try.prog 5 #[.slice a xs.length c] w fun e w' => e = .returned (.bool true) ∧ Below w.heap.size w w' := by
  have HX := Lib.hid hx
  clear hx _hw
  by_cases hl : xs.length ≤ 1048576
  · have HL := Lib.hid (show xs.length ≤ maxLen by unfold maxLen; omega)
    obtain ⟨S, hS⟩ : ∃ S, S = acOr xs := ⟨_, rfl⟩
    have hSl : S.length ≤ 1048576 := by rw [hS]; exact acOr_length xs
    have HS := Lib.hid hS
    clear hS
    have z1 : decide (xs = xs) = true := by simp
    have z3 : decide (S = S) = true := by simp
    go_enter Try.func5, Try.ntmps5
    go_wp2_with fail
    refine (toIntS_ints a c xs w HX.out hl).mono ?_
    rintro e w1 ⟨rfl, p1, b1⟩
    have P1 := Lib.hid p1
    have B1 := Lib.hid b1
    clear p1 b1
    go_wp2_with fail
    refine (specAccessRun_any _ _ xs w1 P1.out ).mono ?_
    rw [← HS.out]
    rintro e w3 ⟨v0, cv0, rfl, _, o3, b3⟩
    have W3 := Lib.hid (own_of_list o3).ints
    have B3 := Lib.hid (Below.next B1.out (Nat.le_refl _) b3)
    clear P1 B1 o3 b3
    go_wp2_with fail
    refine (toIntS_own a c xs w3 (HX.out.next B3.out) hl).mono ?_
    rintro e w4 ⟨x0, rfl, p4, b4⟩
    have X4 := Lib.hid p4
    have W4 := Lib.hid (W3.out.below b4)
    have B4 := Lib.hid (Below.next B3.out (Nat.le_refl _) b4)
    have s34 : w3.heap.size ≤ w4.heap.size := b4.size
    clear p4 b4
    go_wp2_with fail
    refine (accessRun_any _ _ xs w4 X4.out.ints).mono ?_
    rw [← HS.out]
    rintro e w6 ⟨g0, cg0, rfl, _, o6, b6⟩
    have G6 := Lib.hid (own_of_list o6)
    have X6 := Lib.hid (X4.out.next b6)
    have W6 := Lib.hid (W4.out.below (b6.mono (by omega)))
    have B6 := Lib.hid (Below.next B4.out (Nat.le_refl _) b6)
    have s56 : w4.heap.size ≤ w6.heap.size := b6.size
    clear o6 b6
    go_wp2_with fail
    refine (eqIntS_any _ _ _ _ w6.heap.size w3.heap.size S S w6 G6.out.ints W6.out hSl).mono ?_
    rintro e w7 ⟨rfl, n7, rfl⟩
    go_wp2_with fail
    refine (toIntS_ints a c xs _ (HX.out.next (below_drewN B6.out n7)) hl).mono ?_
    rintro e w8 ⟨rfl, p8, b8⟩
    have P8 := Lib.hid p8
    have G8 := Lib.hid (Own.next (w := w6.drewN n7) G6.out b8)
    have X8 := Lib.hid (Own.next (w := w6.drewN n7) X6.out b8)
    have W8 := Lib.hid (Ints.below (w := w6.drewN n7) W6.out (b8.mono (by show w3.heap.size ≤ w6.heap.size; omega)))
    have B8 := Lib.hid (Below.next (below_drewN B6.out n7) (Nat.le_refl _) b8)
    have s68 : w6.heap.size ≤ w8.heap.size := b8.size
    clear p8 b8
    go_wp2_with fail
    refine (eqIntS_any _ _ _ _ w4.heap.size w8.heap.size xs xs w8 X8.out.ints P8.out hl).mono ?_
    rintro e w11 ⟨rfl, n11, rfl⟩
    clear P8 X6 X4 G6 W3 W4 W6
    go_wp2_with fail
    refine (markIntS_own x0 _ 1 w3.heap.size w4.heap.size xs (w8.drewN n11) X8.out hl (by omega)).mono ?_
    rintro e w13 ⟨rfl, _, k13⟩
    have G13 := Lib.hid (Own.keep (w := w8.drewN n11) G8.out k13 (.inr (Nat.le_refl _)))
    have W13 := Lib.hid (Ints.out (w := w8.drewN n11) W8.out k13 (Nat.le_refl _) (by show w3.heap.size ≤ w8.heap.size; omega))
    have B13 := Lib.hid ((below_drewN B8.out n11).trans ((k13.below (by show w3.heap.size ≤ w8.heap.size; omega)).mono B3.out.size))
    have s13 : w8.heap.size ≤ w13.heap.size := k13.size
    clear k13 X8 G8 W8
    have hk2 : ¬ (((1 + xs.length : Nat) : Int) < 0) := by omega
    go_wp2_with fail
    refine (eqIntS_any _ _ _ _ w6.heap.size w3.heap.size S S w13 G13.out.ints W13.out hSl).mono ?_
    rintro e w14 ⟨rfl, n14, rfl⟩
    go_wp2_with fail
    refine (markIntS_own g0 _ 1 w4.heap.size w6.heap.size S (w13.drewN n14) G13.out hSl (by omega)).mono ?_
    rintro e w15 ⟨rfl, g15, k15⟩
    have G15 := Lib.hid g15
    have W15 := Lib.hid (Ints.out (w := w13.drewN n14) W13.out k15 (by omega) (by show w3.heap.size ≤ w13.heap.size; omega))
    have B15 := Lib.hid ((below_drewN B13.out n14).trans ((k15.below (by show w4.heap.size ≤ w13.heap.size; omega)).mono B4.out.size))
    have s15 : w13.heap.size ≤ w15.heap.size := k15.size
    clear k15 g15 G13 W13
    go_wp2_with fail
    refine (heldIntS_any g0 w6.heap.size _ S.length 1 w15 G15.out.ints hSl (by omega)).mono ?_
    rintro e w16 ⟨rfl, rfl⟩
    go_wp2_with fail
    refine (toIntS_ints a c xs w15 (HX.out.next B15.out) hl).mono ?_
    rintro e w18 ⟨rfl, p18, b18⟩
    have P18 := Lib.hid p18
    have G18 := Lib.hid (G15.out.next b18)
    have W18 := Lib.hid (W15.out.below (b18.mono (by omega)))
    have B18 := Lib.hid (Below.next B15.out (Nat.le_refl _) b18)
    have s18 : w15.heap.size ≤ w18.heap.size := b18.size
    clear p18 b18 G15 W15
    go_wp2_with fail
    refine (accessRun_any _ _ xs w18 P18.out).mono ?_
    rw [← HS.out]
    rintro e w19 ⟨h0, ch0, rfl, _, o19, b19⟩
    have H19 := Lib.hid (own_of_list o19).ints
    have G19 := Lib.hid (G18.out.next b19)
    have W19 := Lib.hid (W18.out.below (b19.mono (by omega)))
    have B19 := Lib.hid (Below.next B18.out (Nat.le_refl _) b19)
    clear o19 b19 G18 W18 P18
    go_wp2_with fail
    refine (eqIntS_any _ _ _ _ w19.heap.size w3.heap.size S S w19 H19.out W19.out hSl).mono ?_
    rintro e w20 ⟨rfl, n20, rfl⟩
    go_wp2_with fail
    refine (heldIntS_any g0 w6.heap.size _ S.length 1 (w19.drewN n20) G19.out.ints hSl (by omega)).mono ?_
    rintro e w21 ⟨rfl, rfl⟩
    go_wp2
    go_ret
    exact ⟨rfl, below_drewN B19.out n20⟩
  · go_enter Try.func5, Try.ntmps5
    go_wp2
    go_ret
    exact ⟨rfl, Below.refl _ _⟩
end Go.Proofs.Ytenihedpbklmlaa
