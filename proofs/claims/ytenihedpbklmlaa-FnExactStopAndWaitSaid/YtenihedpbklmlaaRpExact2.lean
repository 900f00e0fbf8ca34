/-
  The law of the exactness of StopAndWait, walked: it returns true for all arguments, and writes into nothing that was there. Condition: lists that can be read.
-/
import Derived.Test.YtenihedpbklmlaaRpExact
namespace Go.Proofs.Ytenihedpbklmlaa
open Go.RowKit

theorem swL_len (n : Int) (lost un : Nat → Bool) : (swL n lost un).length ≤ 30 := by
  cases h : swB n lost un
  · rw [(swL_no h).1]; exact Nat.zero_le _
  · have h2 := h
    simp only [swB, Bool.and_eq_true] at h2
    obtain ⟨N, rfl, hN⟩ := rpIn_nat h2.1
    rw [(swL_yes h).1, fnLs_len]; exact hN
theorem RowB.keep {W W' : World} {b B C : Nat} {ls : List Bool} (h : RowB W b ls) (hk : KeptOut B C W W') (hd : b < B ∨ C ≤ b) : RowB W' b ls := World.rowIs.of_block h (hk.block b h.lt hd)
set_option maxRecDepth 100000 in
set_option maxHeartbeats 8000000 in
theorem walkExactStopAndWait (n : Int) (a : Option Addr) (c : Nat) (ls : List Bool) (a' : Option Addr) (c' : Nat) (us : List Bool) (w : World) (hx : Bls w w.heap.size a ls) (_hc : ls.length ≤ c) (_hm : c ≤ maxLen) (hy : Bls w w.heap.size a' us) (_hc' : us.length ≤ c') (_hm' : c' ≤ maxLen) :
    Calls Try.prog 10 #[.int .i64 n, .slice a ls.length c, .slice a' us.length c'] w fun e w' => e = .returned (.bool true) ∧ Below w.heap.size w w' := by
  have HX := Lib.hid hx
  have HY := Lib.hid hy
  clear hx _hc _hm hy _hc' _hm'
  by_cases hl : ls.length ≤ 1048576
  · by_cases hl2 : us.length ≤ 1048576
    · obtain ⟨S, hS⟩ : ∃ S, S = swL n (bt ls) (bt us) := ⟨_, rfl⟩
      obtain ⟨T, hT⟩ : ∃ T, T = swM n (bt ls) (bt us) := ⟨_, rfl⟩
      have hSl : S.length ≤ 1048576 := by rw [hS]; have := swL_len n (bt ls) (bt us); omega
      have HS := Lib.hid (And.intro hS hT)
      have z3 : decide (S = S) = true := by simp
      have z4 : (T != T) = false := by simp
      clear hS hT
      go_enter Try.func10, Try.ntmps10
      go_wp2_with fail
      refine (toBoolS_any a c ls w HX.out hl).mono ?_
      rintro e w1 ⟨rfl, p1, b1⟩
      have P1 := Lib.hid p1
      have B1 := Lib.hid b1
      clear p1 b1
      go_wp2_with fail
      refine (toBoolS_any a' c' us w1 (HY.out.next B1.out) hl2).mono ?_
      rintro e w2 ⟨rfl, p2, b2⟩
      have P2 := Lib.hid (P1.out.next b2)
      have Q2 := Lib.hid p2
      have B2 := Lib.hid (Below.next B1.out (Nat.le_refl _) b2)
      clear p2 b2 P1 B1
      go_wp2_with fail
      refine (specStopAndWait_any n (some ⟨w.heap.size, 0, none⟩) (some ⟨w1.heap.size, 0, none⟩) ls.length us.length ls us w2 P2.out.bls Q2.out.bls).mono ?_
      unfold StopP
      rw [← HS.out.1, ← HS.out.2]
      intro e w3 h3
      obtain ⟨v0, cv0, rfl, o3, b3⟩ := pair_own h3
      have W3 := Lib.hid o3.ints
      have B3 := Lib.hid (Below.next B2.out (Nat.le_refl _) b3)
      clear P2 Q2 B2 h3 o3 b3
      go_wp2_with fail
      refine (toBoolS_any a c ls w3 (HX.out.next B3.out) hl).mono ?_
      rintro e wa ⟨rfl, pa, ba⟩
      have XA := Lib.hid pa
      have WA := Lib.hid (W3.out.below ba)
      have BA := Lib.hid (Below.next B3.out (Nat.le_refl _) ba)
      have s3a : w3.heap.size < wa.heap.size := pa.lt
      clear pa ba
      go_wp2_with fail
      refine (toBoolS_any a' c' us wa (HY.out.next BA.out) hl2).mono ?_
      rintro e w4 ⟨rfl, p4, b4⟩
      have X4 := Lib.hid (XA.out.next b4)
      have Y4 := Lib.hid p4
      have W4 := Lib.hid (WA.out.below (b4.mono (by omega)))
      have B4 := Lib.hid (Below.next BA.out (Nat.le_refl _) b4)
      have sa4 : wa.heap.size < w4.heap.size := p4.lt
      clear p4 b4 XA WA BA
      go_wp2_with fail
      refine (stopAndWait_any n (some ⟨w3.heap.size, 0, none⟩) (some ⟨wa.heap.size, 0, none⟩) ls.length us.length ls us w4 X4.out.bls Y4.out.bls).mono ?_
      unfold StopP
      rw [← HS.out.1, ← HS.out.2]
      intro e w6 h6
      obtain ⟨g0, cg0, rfl, o6, b6⟩ := pair_own h6
      have G6 := Lib.hid o6
      have X6 := Lib.hid (X4.out.next b6)
      have Y6 := Lib.hid (Y4.out.next b6)
      have W6 := Lib.hid (W4.out.below (b6.mono (by omega)))
      have B6 := Lib.hid (Below.next B4.out (Nat.le_refl _) b6)
      have s56 : w4.heap.size ≤ w6.heap.size := b6.size
      clear h6 o6 b6
      go_wp2_with fail
      refine (eqIntS_any _ _ _ _ w6.heap.size w3.heap.size S S w6 G6.out.ints W6.out hSl).mono ?_
      rintro e w7 ⟨rfl, n7, rfl⟩
      go_wp2_with fail
      refine (toBoolS_any a c ls _ (HX.out.next (below_drewN B6.out n7)) hl).mono ?_
      rintro e w8 ⟨rfl, p8, b8⟩
      have P8 := Lib.hid p8
      have G8 := Lib.hid (Own.next (w := w6.drewN n7) G6.out b8)
      have X8 := Lib.hid (RowB.next (W := w6.drewN n7) X6.out b8)
      have Y8 := Lib.hid (RowB.next (W := w6.drewN n7) Y6.out b8)
      have W8 := Lib.hid (Ints.below (w := w6.drewN n7) W6.out (b8.mono (by show w3.heap.size ≤ w6.heap.size; omega)))
      have B8 := Lib.hid (Below.next (below_drewN B6.out n7) (Nat.le_refl _) b8)
      have s68 : w6.heap.size ≤ w8.heap.size := b8.size
      clear p8 b8
      go_wp2_with fail
      refine (eqBoolS_same _ _ _ _ w8.heap.size w8.heap.size ls w8 X8.out.bls P8.out.bls hl).mono ?_
      rintro e w9 ⟨rfl, n9, rfl⟩
      clear P8 X6 X4 Y6 Y4 G6 W3 W4 W6
      go_wp2_with fail
      refine (toBoolS_any a' c' us _ (HY.out.next (below_drewN B8.out n9)) hl2).mono ?_
      rintro e wb ⟨rfl, pb, bb⟩
      have PB := Lib.hid pb
      have GB := Lib.hid (Own.next (w := w8.drewN n9) G8.out bb)
      have XB := Lib.hid (RowB.next (W := w8.drewN n9) X8.out bb)
      have YB := Lib.hid (RowB.next (W := w8.drewN n9) Y8.out bb)
      have WB := Lib.hid (Ints.below (w := w8.drewN n9) W8.out (bb.mono (by show w3.heap.size ≤ w8.heap.size; omega)))
      have BB := Lib.hid (Below.next (below_drewN B8.out n9) (Nat.le_refl _) bb)
      have s8b : w8.heap.size ≤ wb.heap.size := bb.size
      clear pb bb G8 X8 Y8 W8
      go_wp2_with fail
      refine (eqBoolS_same _ _ _ _ wb.heap.size wb.heap.size us wb YB.out.bls PB.out.bls hl2).mono ?_
      rintro e w11 ⟨rfl, n11, rfl⟩
      clear PB
      go_wp2_with fail
      refine (markBoolS_row w3.heap.size _ ls.length 1 _ (wb.drewN n11) XB.out hl (by omega)).mono ?_
      rintro e wc ⟨rfl, kc⟩
      have GC := Lib.hid (Own.keep (w := wb.drewN n11) GB.out kc (.inr (by omega)))
      have YC := Lib.hid (RowB.keep (W := wb.drewN n11) YB.out kc (.inr (by omega)))
      have WC := Lib.hid (Ints.out (w := wb.drewN n11) WB.out kc (Nat.le_refl _) (by show w3.heap.size ≤ wb.heap.size; omega))
      have BC := Lib.hid ((below_drewN BB.out n11).trans ((kc.below (by show w3.heap.size ≤ wb.heap.size; omega)).mono B3.out.size))
      have sbc : wb.heap.size ≤ wc.heap.size := kc.size
      clear kc XB GB YB WB
      go_wp2_with fail
      refine (markBoolS_row wa.heap.size _ us.length (1 + ls.length) _ wc YC.out hl2 (by omega)).mono ?_
      rintro e w13 ⟨rfl, k13⟩
      have G13 := Lib.hid (Own.keep GC.out k13 (.inr (by omega)))
      have W13 := Lib.hid (Ints.out WC.out k13 (by omega) (by omega))
      have B13 := Lib.hid (BC.out.trans ((k13.below (by omega)).mono (by have := B3.out.size; omega)))
      have s13 : wc.heap.size ≤ w13.heap.size := k13.size
      clear k13 GC YC WC
      have hk2 : ¬ (((1 + ls.length + us.length : Nat) : Int) < 0) := by omega
      go_wp2_with fail
      refine (eqIntS_any _ _ _ _ w6.heap.size w3.heap.size S S w13 G13.out.ints W13.out hSl).mono ?_
      rintro e w14 ⟨rfl, n14, rfl⟩
      go_wp2_with fail
      refine (markIntS_own g0 _ 1 w4.heap.size w6.heap.size S (w13.drewN n14) G13.out hSl (by omega)).mono ?_
      rintro e w15 ⟨rfl, g15, k15⟩
      have G15 := Lib.hid g15
      have W15 := Lib.hid (Ints.out (w := w13.drewN n14) W13.out k15 (by omega) (by show w3.heap.size ≤ w13.heap.size; omega))
      have B15 := Lib.hid ((below_drewN B13.out n14).trans ((k15.below (by show w4.heap.size ≤ w13.heap.size; omega)).mono B4.out.size))
      have s15 : w13.heap.size ≤ w15.heap.size := k15.size
      clear k15 g15 G13 W13
      go_wp2_with fail
      refine (heldIntS_any g0 w6.heap.size _ S.length 1 w15 G15.out.ints hSl (by omega)).mono ?_
      rintro e w16 ⟨rfl, rfl⟩
      go_wp2_with fail
      refine (toBoolS_any a c ls w15 (HX.out.next B15.out) hl).mono ?_
      rintro e w17 ⟨rfl, p17, b17⟩
      have P17 := Lib.hid p17
      have G17 := Lib.hid (G15.out.next b17)
      have W17 := Lib.hid (W15.out.below (b17.mono (by omega)))
      have B17 := Lib.hid (Below.next B15.out (Nat.le_refl _) b17)
      have s17 : w15.heap.size ≤ w17.heap.size := b17.size
      clear p17 b17 G15 W15
      go_wp2_with fail
      refine (toBoolS_any a' c' us w17 (HY.out.next B17.out) hl2).mono ?_
      rintro e w18 ⟨rfl, p18, b18⟩
      have P18 := Lib.hid (P17.out.next b18)
      have Q18 := Lib.hid p18
      have G18 := Lib.hid (G17.out.next b18)
      have W18 := Lib.hid (W17.out.below (b18.mono (by omega)))
      have B18 := Lib.hid (Below.next B17.out (Nat.le_refl _) b18)
      have s18 : w17.heap.size ≤ w18.heap.size := b18.size
      clear p18 b18 G17 W17 P17
      go_wp2_with fail
      refine (stopAndWait_any n (some ⟨w15.heap.size, 0, none⟩) (some ⟨w17.heap.size, 0, none⟩) ls.length us.length ls us w18 P18.out.bls Q18.out.bls).mono ?_
      unfold StopP
      rw [← HS.out.1, ← HS.out.2]
      intro e w19 h19
      obtain ⟨h0, ch0, rfl, o19, b19⟩ := pair_own h19
      have H19 := Lib.hid o19.ints
      have G19 := Lib.hid (G18.out.next b19)
      have W19 := Lib.hid (W18.out.below (b19.mono (by omega)))
      have B19 := Lib.hid (Below.next B18.out (Nat.le_refl _) b19)
      clear h19 o19 b19 G18 W18 P18 Q18
      go_wp2_with fail
      refine (eqIntS_any _ _ _ _ w19.heap.size w3.heap.size S S w19 H19.out W19.out hSl).mono ?_
      rintro e w20 ⟨rfl, n20, rfl⟩
      go_wp2_with fail
      refine (heldIntS_any g0 w6.heap.size _ S.length 1 (w19.drewN n20) G19.out.ints hSl (by omega)).mono ?_
      rintro e w21 ⟨rfl, rfl⟩
      go_wp2
      go_ret
      exact ⟨rfl, below_drewN B19.out n20⟩
    · go_enter Try.func10, Try.ntmps10
      have hl' : ¬ (1048576 : Int) < (ls.length : Int) := by omega
      have hl2' : (1048576 : Int) < (us.length : Int) := by omega
      go_wp2
      go_ret
      exact ⟨rfl, Below.refl _ _⟩
  · go_enter Try.func10, Try.ntmps10
    have hl' : (1048576 : Int) < (ls.length : Int) := by omega
    go_wp2
    go_ret
    exact ⟨rfl, Below.refl _ _⟩
end Go.Proofs.Ytenihedpbklmlaa
