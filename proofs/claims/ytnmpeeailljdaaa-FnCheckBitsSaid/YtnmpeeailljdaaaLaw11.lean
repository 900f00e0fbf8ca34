/-
  The law of CheckBits, walked: it returns true for every code, and writes into nothing that was there.
-/
import Derived.Test.YtnmpeeailljdaaaDraw9
import Derived.Test.YtnmpeeailljdaaaLaw1
namespace Go.Proofs.Ytnmpeeailljdaaa
open Go.RowKit

set_option maxHeartbeats 8000000 in
theorem walkCheckBits (a : Option Addr) (c : Nat) (ds : List Int) (w : World) (hx : Ints .u8 w w.heap.size a ds) (hw : ∀ n ∈ ds, (Lit.int .u8 n).wf = true) (hc : ds.length ≤ c) (hcm : c ≤ maxLen) :
    Calls Try.prog 5 #[.slice a ds.length c] w fun e w' => e = .returned (.bool true) ∧ Below w.heap.size w w' := by
  have hb := isByte_of_wf hw
  clear hw
  by_cases hl : ds.length ≤ 1048576
  · go_enter Try.func5, Try.ntmps5
    go_wp2_with fail
    refine (drawCheckBits_any a c ds w hx hb hc hcm).mono ?_
    rintro e w1 ⟨xs, a1, c1, g, rfl, ⟨l1, l2, l3⟩, ⟨hg1, hg2⟩, i1, b1⟩
    have I1 := Lib.hid i1
    have B1 := Lib.hid b1
    have L1 := Lib.hid (show xs.length ≤ maxLen from Nat.le_trans l2 l3)
    clear hx hb hc hcm i1 b1 l3
    obtain ⟨CH, hCH⟩ : ∃ CH, CH = chkOr g xs := ⟨_, rfl⟩
    have hCHl : CH.length ≤ 1048576 := by
      rw [hCH]; unfold chkOr; split
      · next h => rw [chk_length]; have := (deg_lt (chkOk_parts h).2).2; omega
      · simp
    have HCH := Lib.hid hCH
    have z3 : decide (CH = CH) = true := by simp
    clear hCH
    go_wp2_with fail
    refine (checkBits_any a1 c1 w1.heap.size xs g w1 I1.out (Nat.le_refl _)).mono ?_
    rw [← HCH.out]
    rintro e w2 ⟨v2, cv2, rfl, o2, b2⟩
    have V2 := Lib.hid (own_of_list o2).ints
    have I2 := Lib.hid (I1.out.next b2)
    have B2 := Lib.hid (Below.next B1.out (Nat.le_refl _) b2)
    clear o2 b2
    go_wp2_with fail
    refine (specCheckBits_any a1 c1 xs g w2 I2.out L1.out).mono ?_
    rw [← HCH.out]
    rintro e w3 ⟨v3, cv3, rfl, _, o3, b3⟩
    have U3 := Lib.hid (own_of_list o3).ints
    have V3 := Lib.hid (V2.out.next b3)
    have I3 := Lib.hid (I2.out.next b3)
    have B3 := Lib.hid (Below.next B2.out (Nat.le_refl _) b3)
    clear o3 b3 I1 I2 V2
    go_wp2_with fail
    refine (sameInts_any v2 v3 cv2 cv3 w3.heap.size w3.heap.size CH CH w3 V3.out U3.out hCHl).mono ?_
    rintro e w4 ⟨rfl, n4, rfl⟩
    have B4 := Lib.hid (below_drewN B3.out n4)
    have V4 : Hid (Ints .i64 (w3.drewN n4) (w3.drewN n4).heap.size v2 CH) := V3.out
    have I4 : Hid (Ints .i64 (w3.drewN n4) (w3.drewN n4).heap.size a1 xs) := I3.out
    clear B1 B2 B3 V3 U3 I3 z3
    generalize w3.drewN n4 = w5 at *
    have h1 := isBits_any a1 c1 w5.heap.size xs w5 I4.out L1.out
    have h2 := genValid_any g w5
    cases hbb : bitsOk xs
    · have h0 : CH.length = 0 := by rw [HCH.out, chkOr_no (by simp [chkOk, hbb])]; rfl
      have heq : ((CH.length : Int) == 0) = true := by rw [h0]; rfl
      rw [hbb] at h1
      have H1 := Lib.hid h1
      clear h1 h2 hbb h0
      go_wp2_with (go_at_call 28; ((with_reducible refine H1.out.mono ?_); rintro e w' ⟨rfl, rfl⟩))
      refine (alive_any w5).mono ?_
      rintro e w6 ⟨rfl, b6⟩
      have B6 := Lib.hid (Below.next B4.out (Nat.le_refl _) b6)
      clear b6
      go_wp2
      go_ret
      exact ⟨rfl, B6.out⟩
    · rw [hbb] at h1
      cases hg : genOk g
      · have h0 : CH.length = 0 := by rw [HCH.out, chkOr_no (by simp [chkOk, hg])]; rfl
        have heq : ((CH.length : Int) == 0) = true := by rw [h0]; rfl
        rw [hg] at h2
        have H1 := Lib.hid h1
        have H2 := Lib.hid h2
        clear h1 h2 hbb hg h0
        go_wp2_with (first | (go_at_call 28; ((with_reducible refine H1.out.mono ?_); rintro e w' ⟨rfl, rfl⟩)) | (go_at_call 18; ((with_reducible refine H2.out.mono ?_); rintro e w' ⟨rfl, rfl⟩)))
        refine (alive_any w5).mono ?_
        rintro e w6 ⟨rfl, b6⟩
        have B6 := Lib.hid (Below.next B4.out (Nat.le_refl _) b6)
        clear b6
        go_wp2
        go_ret
        exact ⟨rfl, B6.out⟩
      · rw [hg] at h2
        have H1 := Lib.hid h1
        have H2 := Lib.hid h2
        have hxl := bitsOk_length hbb
        have hrl : xs.length = xs.reverse.length := by simp
        have hro := reverse_ok hbb
        have hpk : pairOk xs xs.reverse = true := by simp [pairOk, hbb, hro]
        have HAdd : Hid (sumOr xs xs.reverse = sumBits xs xs.reverse) := by show _ = _; simp [sumOr, hpk]
        have hsok : bitsOk (sumBits xs xs.reverse) = true := sumBits_ok hxl
        have HChS : Hid (chkOr g (sumBits xs xs.reverse) = chk g (sumBits xs xs.reverse)) := chkOr_yes (by simp [chkOk, hsok, hg])
        have HChR : Hid (chkOr g xs.reverse = chk g xs.reverse) := chkOr_yes (by simp [chkOk, hro, hg])
        have HChZ : Hid (chkOr g (zeros xs.length) = zeros (deg g)) := by
          show _ = _
          rw [chkOr_yes (by simp [chkOk, zeros_ok hxl, hg]), chk_zeros hg]
        have hCHe : CH = chk g xs := by rw [HCH.out, chkOr_yes (by simp [chkOk, hbb, hg])]
        have hd1 := (deg_lt hg).1
        have hd2 := (deg_lt hg).2
        have HSm0 : Hid (sumOr CH (chk g xs.reverse) = chk g (sumBits xs xs.reverse)) := by
          show _ = _
          rw [hCHe, chk_sum hg hrl]
          have : pairOk (chk g xs) (chk g xs.reverse) = true := by simp [pairOk, chk_ok hg, chk_length]
          simp [sumOr, this]
        have HLd0 : Hid (CH.length = deg g) := by show _ = _; rw [hCHe, chk_length]
        have hdeg := fun W => degreeOf_any g W
        rw [show degOr g = (deg g : Int) by simp [degOr, hg]] at hdeg
        have HDg := Lib.hid hdeg
        have HRl := Lib.hid hrl
        clear h1 h2 hbb hg hro hpk hsok hCHe hdeg hrl
        go_wp2_with (first | (go_at_call 28; ((with_reducible refine H1.out.mono ?_); rintro e w' ⟨rfl, rfl⟩)) | (go_at_call 18; ((with_reducible refine H2.out.mono ?_); rintro e w' ⟨rfl, rfl⟩)))
        go_loopw [6, 7] (fun s i wr => ∃ (q n : Nat) (v : Option Addr) (cap : Nat), q ≤ xs.length ∧ Idx q i ∧ s = .slice v n cap ∧ RevRel xs w5 q n v cap wr) (fun _ i _ => (intOf i + 1).toNat)
        case atStart => exact ⟨xs.length, 0, _, _, Nat.le_refl _, idx_pred _, rfl, by omega, Grow.lit0 _ _ _ _ (Nat.le_refl _), (Below.refl _ _).alloc (Nat.le_refl _) _⟩
        case round =>
          obtain ⟨q, n, v, cap, hq, hj, rfl, hn, hgr, hbel⟩ := hrel
          have HN := Lib.hid hn
          have HG := Lib.hid hgr
          have HBe := Lib.hid hbel
          have hsz : w5.heap.size ≤ wr.heap.size := hbel.size
          have hnn : n ≤ 1100 := by omega
          clear hn hgr hbel
          rcases hj with ⟨rfl, rfl⟩ | ⟨j, rfl, rfl⟩
          · have HG2 : Hid (Ints .i64 wr wr.heap.size v xs.reverse) := by
              have := HG.out.ints
              rw [List.take_of_length_le (by have := HN.out; simp; omega)] at this
              exact this
            have hnr : n = xs.reverse.length := by have := HN.out; simp; omega
            subst hnr
            have B6 := Lib.hid (Below.next B4.out (Nat.le_refl _) HBe.out)
            have V6 := Lib.hid (V4.out.next HBe.out)
            have I6 := Lib.hid (I4.out.next HBe.out)
            have hrl2 : xs.reverse.length ≤ 1024 := by rw [← HRl.out]; exact hxl
            have HCZ : Hid (∀ (z : Nat) (W : World), Ints .i64 W W.heap.size (some ⟨z, 0, none⟩) (zeros xs.length) → Calls Try.prog 25 #[.slice (some ⟨z, 0, none⟩) xs.length xs.length, .int .i64 g] W (ListPost (zeros (deg g)) W)) := fun z W hW => by
              have := checkBits_any (some ⟨z, 0, none⟩) xs.length W.heap.size (zeros xs.length) g W hW (Nat.le_refl _)
              rw [zeros_length, HChZ.out] at this
              exact this
            have HCR : Hid (∀ (W : World), Ints .i64 W W.heap.size v xs.reverse → Calls Try.prog 25 #[.slice v xs.reverse.length cap, .int .i64 g] W (ListPost (chk g xs.reverse) W)) := fun W hW => by
              have := checkBits_any v cap W.heap.size xs.reverse g W hW (Nat.le_refl _)
              rw [HChR.out] at this
              exact this
            have hSl : (sumBits xs xs.reverse).length ≤ 1024 := by rw [sumBits_length]; exact hxl
            have hCSl0 : (chk g (sumBits xs xs.reverse)).length ≤ 1048576 := by rw [chk_length]; omega
            have HChS' := HChS
            clear HG HN HChZ HChR HChS HRl
            generalize deg g = d at *
            generalize chk g (sumBits xs xs.reverse) = CS at *
            generalize chk g xs.reverse = CR at *
            generalize sumBits xs xs.reverse = SB at *
            generalize xs.reverse = rs at *
            have HSum := HSm0
            have HLd := HLd0
            have hCSl := hCSl0
            have heq2 : ((CH.length : Int) == (d : Int)) = true := by rw [HLd.out]; simp
            have hmk := run_make_row' (P := Try.prog) 28 3 (.int .i64 0) 8 Try.underlying28 Try.infoInt rfl .i64 .i64 xs.length (by omega) (by omega)
            have hmk2 := run_make_row' (P := Try.prog) 28 3 (.int .i64 0) 8 Try.underlying28 Try.infoInt rfl .i64 .i64 CH.length (by have := HLd.out; omega) (by have := HLd.out; omega)
            have HMk := Lib.hid hmk
            have HMk2 := Lib.hid hmk2
            clear hmk hmk2 HSm0 HLd0 hCSl0
            go_wp2_with fail
            refine (addBits_any a1 v c1 cap wr.heap.size wr.heap.size xs rs wr I6.out HG2.out (Nat.le_refl _) (Nat.le_refl _)).mono ?_
            rw [HAdd.out]
            rintro e w7 ⟨v7, c7, rfl, o7, b7⟩
            have U7 := Lib.hid (own_of_list o7).ints
            have V7 := Lib.hid (V6.out.next b7)
            have R7 := Lib.hid (HG2.out.next b7)
            have B7 := Lib.hid (Below.next B6.out (Nat.le_refl _) b7)
            clear o7 b7 V6 I6 HG2 B6
            go_wp2_with fail
            have hcs := checkBits_any v7 c7 w7.heap.size SB g w7 U7.out (Nat.le_refl _)
            rw [HChS'.out] at hcs
            have HCS := Lib.hid hcs
            clear hcs
            refine HCS.out.mono ?_
            rintro e wr2 ⟨v9, c9, rfl, o9, b9⟩
            have S9 := Lib.hid (own_of_list o9).ints
            have C9 := Lib.hid (V7.out.next b9)
            have R9 := Lib.hid (R7.out.next b9)
            have B9 := Lib.hid (Below.next B7.out (Nat.le_refl _) b9)
            clear o9 b9 U7 V7 R7 B7 HCS
            have HCB := HCR
            clear HCR
            have hmk := HMk.out
            have hmk2 := HMk2.out
            go_wp2
            refine wp_region_any (by kernel_rfl) ?_
            change wpAny _ _ _ _ _ _ _ (World.drew _)
            refine wpAny_take (i := 0) (v := ?v0) rfl (by kernel_rfl) (by kernel_rfl) (by kernel_rfl) (fun _ _ _ h => h) (Or.inl ⟨by kernel_rfl, ?h0⟩) ?_
            case h0 => intro w; go_simp; try with_reducible rfl
            go_simp
            refine wpAny_take (i := 1) (v := ?v1) rfl (by kernel_rfl) (by kernel_rfl) (by kernel_rfl) (fun _ _ _ h => h) (Or.inl ⟨by kernel_rfl, ?h1⟩) ?_
            case h1 => intro w; go_simp; try with_reducible rfl
            go_simp
            refine wpAny_take (i := 2) (v := ?v2) rfl (by kernel_rfl) (by kernel_rfl) (by kernel_rfl) (fun _ _ _ h => h) (Or.inl ⟨by kernel_rfl, ?h2⟩) ?_
            case h2 => intro w; go_simp; try with_reducible rfl
            go_simp
            refine wpAny_ready (rs := [3]) (by kernel_rfl) (by simp) (AllReady.cons rfl (fun K hK => ?_) AllReady.nil)
            go_simp
            refine (HDg.out _).mono ?_
            rintro e w' ⟨rfl, rfl⟩
            go_simp
            refine hK _ _ ?_
            clear hK K
            refine wpAny_take (i := 4) (v := ?v4) rfl (by kernel_rfl) (by kernel_rfl) (by kernel_rfl) (fun _ _ _ h => h) (Or.inl ⟨by kernel_rfl, ?h4⟩) ?_
            case h4 => intro w; go_simp; try with_reducible rfl
            go_simp
            refine wpAny_take (i := 5) (v := ?v5) rfl (by kernel_rfl) (by kernel_rfl) (by kernel_rfl) (fun _ _ _ h => h) (Or.inl ⟨by kernel_rfl, ?h5⟩) ?_
            case h5 => intro w; go_simp; try with_reducible rfl
            go_simp
            refine wpAny_take (i := 6) (v := ?v6) rfl (by kernel_rfl) (by kernel_rfl) (by kernel_rfl) (fun _ _ _ h => h) (Or.inl ⟨by kernel_rfl, ?h6⟩) ?_
            case h6 => intro w; go_simp; try with_reducible rfl
            go_simp
            refine wpAny_take (i := 7) (v := ?v7) rfl (by kernel_rfl) (by kernel_rfl) (by kernel_rfl) (fun _ _ _ h => h) (Or.inl ⟨by kernel_rfl, ?h7⟩) ?_
            case h7 => intro w; go_simp; try with_reducible rfl
            go_simp
            refine wpAny_take (i := 8) (v := ?v8) rfl (by kernel_rfl) (by kernel_rfl) (by kernel_rfl) (fun _ _ _ h => h) (Or.inl ⟨by kernel_rfl, ?h8⟩) ?_
            case h8 => intro w; go_simp; try with_reducible rfl
            go_simp
            refine wpAny_take (i := 9) (v := ?v9) rfl (by kernel_rfl) (by kernel_rfl) (by kernel_rfl) (fun _ _ _ h => h) (Or.inl ⟨by kernel_rfl, ?h9⟩) ?_
            case h9 => intro w; go_simp; try with_reducible rfl
            go_simp
            refine wpAny_ready (rs := [10]) (by kernel_rfl) (by simp) (AllReady.cons rfl (fun K hK => ?_) AllReady.nil)
            go_simp
            refine (HCB.out wr2.drew R9.out).mono ?_
            rintro e w10 ⟨v10, c10, rfl, o10, b10⟩
            have U10 := Lib.hid (own_of_list o10).ints
            have C10 := Lib.hid (Ints.next (w := wr2.drew) C9.out b10)
            have S10 := Lib.hid (Ints.next (w := wr2.drew) S9.out b10)
            have B10 := Lib.hid (Below.next B9.out.drew (Nat.le_refl _) b10)
            clear o10 b10 HCB R9 C9 S9 B9
            go_simp
            refine hK _ _ ?_
            clear hK K
            refine wpAny_ready (rs := [11]) (by kernel_rfl) (by simp) (AllReady.cons rfl (fun K hK => ?_) AllReady.nil)
            go_simp
            refine (addBits_any v2 v10 cv2 c10 w10.heap.size w10.heap.size CH CR w10 C10.out U10.out (Nat.le_refl _) (Nat.le_refl _)).mono ?_
            rw [HSum.out]
            rintro e w11 ⟨v11, c11, rfl, o11, b11⟩
            have U11 := Lib.hid (own_of_list o11).ints
            have S11 := Lib.hid (S10.out.next b11)
            have B11 := Lib.hid (Below.next B10.out (Nat.le_refl _) b11)
            clear o11 b11 U10 C10 S10 B10
            go_simp
            refine hK _ _ ?_
            clear hK K
            have hsm := sameInts_any v9 v11 c9 c11 w11.heap.size w11.heap.size CS CS w11 S11.out U11.out hCSl
            rw [decide_eq_true (rfl : CS = CS)] at hsm
            have HSm := Lib.hid hsm
            clear hsm
            refine wpAny_ready (rs := [12]) (by kernel_rfl) (by simp) (AllReady.cons rfl (fun K hK => ?_) AllReady.nil)
            go_simp
            with_reducible refine HSm.out.mono ?_
            rintro e w12 ⟨rfl, n12, rfl⟩
            have B12 := Lib.hid (below_drewN B11.out n12)
            clear HSm S11 U11 B11
            go_simp
            refine hK _ _ ?_
            clear hK K
            generalize w11.drewN n12 = w12 at *
            refine wpAny_take (i := 13) (v := ?v13) rfl (by kernel_rfl) (by kernel_rfl) (by kernel_rfl) (fun _ _ _ h => h) (Or.inl ⟨by kernel_rfl, ?h13⟩) ?_
            case h13 => intro w; go_simp; try with_reducible rfl
            go_simp
            refine wpAny_take (i := 14) (v := ?v14) rfl (by kernel_rfl) (by kernel_rfl) (by kernel_rfl) (fun _ _ _ h => h) (Or.inl ⟨by kernel_rfl, ?h14⟩) ?_
            case h14 => intro w; go_simp; try with_reducible rfl
            go_simp
            refine wpAny_take (i := 15) (v := ?v15) rfl (by kernel_rfl) (by kernel_rfl) (by kernel_rfl) (fun _ _ _ h => h) (Or.inl ⟨by kernel_rfl, ?h15⟩) ?_
            case h15 => intro w; go_simp; try with_reducible rfl
            go_simp
            refine wpAny_take (i := 16) (v := ?v16) rfl (by kernel_rfl) (by kernel_rfl) (by kernel_rfl) (fun _ _ _ h => h) (Or.inl ⟨by kernel_rfl, ?h16⟩) ?_
            case h16 => intro w; go_simp; try with_reducible rfl
            go_simp
            refine wpAny_take (i := 18) (v := ?v18) rfl (by kernel_rfl) (by kernel_rfl) (by kernel_rfl) (fun _ _ _ h => h) (Or.inl ⟨by kernel_rfl, ?h18⟩) ?_
            case h18 => intro w; go_simp; try with_reducible rfl
            go_simp
            refine wpAny_take (i := 20) (v := ?v20) rfl (by kernel_rfl) (by kernel_rfl) (by kernel_rfl) (fun _ _ _ h => h) (Or.inl ⟨by kernel_rfl, ?h20⟩) ?_
            case h20 => intro w; go_simp; try with_reducible rfl
            go_simp
            refine wpAny_take (i := 21) (v := ?v21) rfl (by kernel_rfl) (by kernel_rfl) (by kernel_rfl) (fun _ _ _ h => h) (Or.inl ⟨by kernel_rfl, ?h21⟩) ?_
            case h21 => intro w; go_simp; try with_reducible rfl
            go_simp
            refine wpAny_ready (rs := [17, 22]) (by kernel_rfl) (by simp) (AllReady.cons rfl (fun K hK => ?_) (AllReady.cons rfl (fun K hK => ?_) AllReady.nil))
            · go_simp
              refine hK _ _ ?_
              clear hK K
              have Z13 := Lib.hid ((zeros_ints w12 xs.length).more (show w12.heap.size + 1 ≤ (w12.alloc (.cells (madeCells #[.int .i64 0] xs.length) 3)).heap.size by simp))
              have B13 := Lib.hid (B12.out.alloc B12.out.size (.cells (madeCells #[.int .i64 0] xs.length) 3))
              generalize hb13 : w12.heap.size = z at *
              generalize w12.alloc (.cells (madeCells #[.int .i64 0] xs.length) 3) = w13 at *
              refine wpAny_ready (rs := [19, 22]) (by kernel_rfl) (by simp) (AllReady.cons rfl (fun K hK => ?_) (AllReady.cons rfl (fun K hK => ?_) AllReady.nil))
              · go_simp
                refine (HCZ.out z w13 Z13.out).mono ?_
                rintro e w14 ⟨v14, c14, rfl, o14, b14⟩
                have U14 := Lib.hid (own_of_list o14).ints
                have B14 := Lib.hid (Below.next B13.out (Nat.le_refl _) b14)
                clear o14 b14
                go_simp
                refine hK _ _ ?_
                clear hK K
                refine wpAny_ready (rs := [22]) (by kernel_rfl) (by simp) (AllReady.cons rfl (fun K hK => ?_) AllReady.nil)
                go_simp
                refine hK _ _ ?_
                clear hK K
                have B15 := Lib.hid (B14.out.alloc B14.out.size (.cells (madeCells #[.int .i64 0] CH.length) 3))
                have hsz := sameInts_any v14 (some ⟨w14.heap.size, 0, none⟩) c14 CH.length w14.heap.size (w14.heap.size + 1) (zeros d) (zeros CH.length) (w14.alloc (.cells (madeCells #[.int .i64 0] CH.length) 3)) (U14.out.below ((Below.refl _ _).alloc (Nat.le_refl _) _)) (zeros_ints w14 CH.length) (by rw [zeros_length]; omega)
                rw [show (zeros CH.length).length = CH.length from zeros_length _, decide_eq_true (show zeros d = zeros CH.length by rw [HLd.out])] at hsz
                have HSz := Lib.hid hsz
                clear hsz
                refine wpAny_ready (rs := [23]) (by kernel_rfl) (by simp) (AllReady.cons rfl (fun K hK => ?_) AllReady.nil)
                go_simp
                with_reducible refine HSz.out.mono ?_
                rintro e w16 ⟨rfl, n16, rfl⟩
                go_simp
                refine hK _ _ ?_
                clear hK K
                refine wpAny_take (i := 24) (v := ?vp24) rfl (by kernel_rfl) (by kernel_rfl) (by kernel_rfl) (fun _ _ _ h => h) (Or.inl ⟨by kernel_rfl, ?hp24⟩) ?_
                case hp24 => intro w; go_simp; try with_reducible rfl
                go_simp
                refine wpAny_take (i := 25) (v := ?vp25) rfl (by kernel_rfl) (by kernel_rfl) (by kernel_rfl) (fun _ _ _ h => h) (Or.inl ⟨by kernel_rfl, ?hp25⟩) ?_
                case hp25 => intro w; go_simp; try with_reducible rfl
                go_simp
                refine wpAny_done (by kernel_rfl) ?_ _
                go_wp2
                go_ret
                exact ⟨rfl, below_drewN B15.out n16⟩
              · go_simp
                refine hK _ _ ?_
                clear hK K
                have Y14 := Lib.hid ((zeros_ints w13 CH.length).more (show w13.heap.size + 1 ≤ (w13.alloc (.cells (madeCells #[.int .i64 0] CH.length) 3)).heap.size by simp))
                have Z14 := Lib.hid (Z13.out.next ((Below.refl w13.heap.size w13).alloc (Nat.le_refl _) (.cells (madeCells #[.int .i64 0] CH.length) 3)))
                have B14 := Lib.hid (B13.out.alloc B13.out.size (.cells (madeCells #[.int .i64 0] CH.length) 3))
                generalize hb14 : w13.heap.size = y at *
                generalize w13.alloc (.cells (madeCells #[.int .i64 0] CH.length) 3) = w14 at *
                refine wpAny_ready (rs := [19]) (by kernel_rfl) (by simp) (AllReady.cons rfl (fun K hK => ?_) AllReady.nil)
                go_simp
                refine (HCZ.out z w14 Z14.out).mono ?_
                rintro e w15 ⟨v15, c15, rfl, o15, b15⟩
                have U15 := Lib.hid (own_of_list o15).ints
                have Y15 := Lib.hid (Y14.out.next b15)
                have B15 := Lib.hid (Below.next B14.out (Nat.le_refl _) b15)
                clear o15 b15
                go_simp
                refine hK _ _ ?_
                clear hK K
                
                have hsz := sameInts_any v15 (some ⟨y, 0, none⟩) c15 CH.length w15.heap.size w15.heap.size (zeros d) (zeros CH.length) w15 U15.out Y15.out (by rw [zeros_length]; omega)
                rw [show (zeros CH.length).length = CH.length from zeros_length _, decide_eq_true (show zeros d = zeros CH.length by rw [HLd.out])] at hsz
                have HSz := Lib.hid hsz
                clear hsz
                refine wpAny_ready (rs := [23]) (by kernel_rfl) (by simp) (AllReady.cons rfl (fun K hK => ?_) AllReady.nil)
                go_simp
                with_reducible refine HSz.out.mono ?_
                rintro e w16 ⟨rfl, n16, rfl⟩
                go_simp
                refine hK _ _ ?_
                clear hK K
                refine wpAny_take (i := 24) (v := ?vq24) rfl (by kernel_rfl) (by kernel_rfl) (by kernel_rfl) (fun _ _ _ h => h) (Or.inl ⟨by kernel_rfl, ?hq24⟩) ?_
                case hq24 => intro w; go_simp; try with_reducible rfl
                go_simp
                refine wpAny_take (i := 25) (v := ?vq25) rfl (by kernel_rfl) (by kernel_rfl) (by kernel_rfl) (fun _ _ _ h => h) (Or.inl ⟨by kernel_rfl, ?hq25⟩) ?_
                case hq25 => intro w; go_simp; try with_reducible rfl
                go_simp
                refine wpAny_done (by kernel_rfl) ?_ _
                go_wp2
                go_ret
                exact ⟨rfl, below_drewN B15.out n16⟩
            · go_simp
              refine hK _ _ ?_
              clear hK K
              have Y13 := Lib.hid ((zeros_ints w12 CH.length).more (show w12.heap.size + 1 ≤ (w12.alloc (.cells (madeCells #[.int .i64 0] CH.length) 3)).heap.size by simp))
              have B13 := Lib.hid (B12.out.alloc B12.out.size (.cells (madeCells #[.int .i64 0] CH.length) 3))
              generalize hb13 : w12.heap.size = y at *
              generalize w12.alloc (.cells (madeCells #[.int .i64 0] CH.length) 3) = w13 at *
              refine wpAny_ready (rs := [17]) (by kernel_rfl) (by simp) (AllReady.cons rfl (fun K hK => ?_) AllReady.nil)
              go_simp
              refine hK _ _ ?_
              clear hK K
              have Z14 := Lib.hid ((zeros_ints w13 xs.length).more (show w13.heap.size + 1 ≤ (w13.alloc (.cells (madeCells #[.int .i64 0] xs.length) 3)).heap.size by simp))
              have Y14 := Lib.hid (Y13.out.next ((Below.refl w13.heap.size w13).alloc (Nat.le_refl _) (.cells (madeCells #[.int .i64 0] xs.length) 3)))
              have B14 := Lib.hid (B13.out.alloc B13.out.size (.cells (madeCells #[.int .i64 0] xs.length) 3))
              generalize hb14 : w13.heap.size = z at *
              generalize w13.alloc (.cells (madeCells #[.int .i64 0] xs.length) 3) = w14 at *
              refine wpAny_ready (rs := [19]) (by kernel_rfl) (by simp) (AllReady.cons rfl (fun K hK => ?_) AllReady.nil)
              go_simp
              refine (HCZ.out z w14 Z14.out).mono ?_
              rintro e w15 ⟨v15, c15, rfl, o15, b15⟩
              have U15 := Lib.hid (own_of_list o15).ints
              have Y15 := Lib.hid (Y14.out.next b15)
              have B15 := Lib.hid (Below.next B14.out (Nat.le_refl _) b15)
              clear o15 b15
              go_simp
              refine hK _ _ ?_
              clear hK K
              
              have hsz := sameInts_any v15 (some ⟨y, 0, none⟩) c15 CH.length w15.heap.size w15.heap.size (zeros d) (zeros CH.length) w15 U15.out Y15.out (by rw [zeros_length]; omega)
              rw [show (zeros CH.length).length = CH.length from zeros_length _, decide_eq_true (show zeros d = zeros CH.length by rw [HLd.out])] at hsz
              have HSz := Lib.hid hsz
              clear hsz
              refine wpAny_ready (rs := [23]) (by kernel_rfl) (by simp) (AllReady.cons rfl (fun K hK => ?_) AllReady.nil)
              go_simp
              with_reducible refine HSz.out.mono ?_
              rintro e w16 ⟨rfl, n16, rfl⟩
              go_simp
              refine hK _ _ ?_
              clear hK K
              refine wpAny_take (i := 24) (v := ?vr24) rfl (by kernel_rfl) (by kernel_rfl) (by kernel_rfl) (fun _ _ _ h => h) (Or.inl ⟨by kernel_rfl, ?hr24⟩) ?_
              case hr24 => intro w; go_simp; try with_reducible rfl
              go_simp
              refine wpAny_take (i := 25) (v := ?vr25) rfl (by kernel_rfl) (by kernel_rfl) (by kernel_rfl) (fun _ _ _ h => h) (Or.inl ⟨by kernel_rfl, ?hr25⟩) ?_
              case hr25 => intro w; go_simp; try with_reducible rfl
              go_simp
              refine wpAny_done (by kernel_rfl) ?_ _
              go_wp2
              go_ret
              exact ⟨rfl, below_drewN B15.out n16⟩
          · obtain ⟨b, off, rfl, hb', hc⟩ := (I4.out.next HBe.out).at_ (i := j) (by omega)
            go_wp2_with (at_builtin; refine wpList_append1 (.tmp 48) (.tmp 53) w5.heap.size v n cap _ ⟨wr.heap.size, 0, none⟩ (el xs j) rfl rfl rfl rfl (HG.out.alloc _) (by simp) (by omega) (by simp; omega) ?_; intro a3 cap3 w3 hg3 hb3; have HG3 := Lib.hid hg3; have HB3 := Lib.hid hb3; clear hg3 hb3)
            go_roundw
            case rel => exact ⟨j, n + 1, a3, cap3, by omega, idx_pred j, rfl, by have := HN.out; omega, by rw [rev_take HN.out]; exact HG3.out, (HBe.out.alloc hsz _).trans HB3.out⟩
            case measure => simp [intOf]
  · go_enter Try.func5, Try.ntmps5
    go_wp2
    go_ret
    exact ⟨rfl, Below.refl _ _⟩
end Go.Proofs.Ytnmpeeailljdaaa
