/-
  The law of CheckPasses, walked: it returns true for every code, and writes into nothing that was there.
-/
import Derived.Test.YtnmpeeailljdaaaDraw9
import Derived.Test.YtnmpeeailljdaaaLaw1
namespace Go.Proofs.Ytnmpeeailljdaaa
open Go.RowKit

set_option maxHeartbeats 4000000 in
theorem walkCheckPasses (a : Option Addr) (c : Nat) (ds : List Int) (w : World) (hx : Ints .u8 w w.heap.size a ds) (hw : ∀ n ∈ ds, (Lit.int .u8 n).wf = true) (hc : ds.length ≤ c) (hcm : c ≤ maxLen) :
    Calls Try.prog 7 #[.slice a ds.length c] w fun e w' => e = .returned (.bool true) ∧ Below w.heap.size w w' := by
  have hb := isByte_of_wf hw
  clear hw
  by_cases hl : ds.length ≤ 1048576
  · go_enter Try.func7, Try.ntmps7
    go_wp2_with fail
    refine (drawCheckPasses_any a c ds w hx hb hc hcm).mono ?_
    rintro e w1 ⟨xs, a1, c1, g, rfl, ⟨l1, l2, l3⟩, ⟨hg1, hg2⟩, i1, b1⟩
    have I1 := Lib.hid i1
    have B1 := Lib.hid b1
    have L3 := Lib.hid l3
    have L1 := Lib.hid (show xs.length ≤ maxLen from Nat.le_trans l2 l3)
    clear hx hb hc hcm i1 b1 l3
    have HNo := Lib.hid (fun h : chkOk g xs = false => passes_no h)
    have HSh := Lib.hid (fun h : ¬ deg g ≤ xs.length => passes_short h)
    have HIf := Lib.hid (fun (h1 : bitsOk xs = true) (h2 : genOk g = true) (h3 : deg g ≤ xs.length) => passes_iff h1 h2 h3)
    go_wp2_with fail
    refine (checkPasses_any a1 c1 xs g w1 I1.out l2 L3.out).mono ?_
    rintro e w2 ⟨rfl, b2⟩
    have I2 := Lib.hid (I1.out.next b2)
    have B2 := Lib.hid (Below.next B1.out (Nat.le_refl _) b2)
    clear b2 I1 B1
    go_wp2_with fail
    refine (specCheckPasses_any a1 c1 w2.heap.size xs g w2 I2.out L1.out).mono ?_
    rintro e w' ⟨rfl, rfl⟩
    generalize passes g xs = R at *
    have hself : (R != R) = false := by simp
    have h1 := isBits_any a1 c1 w2.heap.size xs w2 I2.out L1.out
    have hdeg := fun W => degreeOf_any g W
    cases hg : genOk g
    · have hRf : R = false := HNo.out (by simp [chkOk, hg])
      subst hRf
      rw [show degOr g = -1 by simp [degOr, hg]] at hdeg
      have HDg := Lib.hid hdeg
      clear h1 hdeg hg HNo HSh HIf
      go_wp2_with (go_at_call 20; ((with_reducible refine (HDg.out _).mono ?_); rintro e w' ⟨rfl, rfl⟩))
      refine (alive_any w2).mono ?_
      rintro e w5 ⟨rfl, b5⟩
      have B5 := Lib.hid (Below.next B2.out (Nat.le_refl _) b5)
      clear b5
      go_wp2
      go_ret
      exact ⟨rfl, B5.out⟩
    · rw [show degOr g = (deg g : Int) by simp [degOr, hg]] at hdeg
      have HDg := Lib.hid hdeg
      have hd1 := (deg_lt hg).1
      have hd2 := (deg_lt hg).2
      clear hdeg
      cases hbb : bitsOk xs
      · have hRf : R = false := HNo.out (by simp [chkOk, hbb])
        subst hRf
        rw [hbb] at h1
        have H1 := Lib.hid h1
        clear h1 hg hbb HNo HSh HIf
        go_wp2_with (first | (go_at_call 20; ((with_reducible refine (HDg.out _).mono ?_); rintro e w' ⟨rfl, rfl⟩)) | (go_at_call 28; ((with_reducible refine H1.out.mono ?_); rintro e w' ⟨rfl, rfl⟩)))
        refine (alive_any w2).mono ?_
        rintro e w5 ⟨rfl, b5⟩
        have B5 := Lib.hid (Below.next B2.out (Nat.le_refl _) b5)
        clear b5
        go_wp2
        go_ret
        exact ⟨rfl, B5.out⟩
      · rw [hbb] at h1
        have H1 := Lib.hid h1
        clear h1
        by_cases hlen : deg g ≤ xs.length
        · have hxl := bitsOk_length hbb
          have HEq := Lib.hid (HIf.out hbb hg hlen).symm
          have HOk := Lib.hid (show chkOk g (xs.take (xs.length - deg g)) = true by simp [chkOk, bitsOk_take' hbb, hg])
          have HZ := Lib.hid (passes_zeros hg)
          obtain ⟨n, hn⟩ : ∃ n, n = xs.length - deg g := ⟨_, rfl⟩
          obtain ⟨d, hdd⟩ : ∃ d, d = deg g := ⟨_, rfl⟩
          rw [← hn] at HEq HOk
          have hKl : (chk g (xs.take n)).length ≤ 1048576 := by rw [chk_length]; omega
          obtain ⟨b, off, rfl, hbw, hcc⟩ := I2.out.at_ (i := 0) (by omega)
          have hcb := checkBits_any (some ⟨b, off, none⟩) c1 w2.heap.size (xs.take n) g w2.drew I2.out.take (Nat.le_refl _)
          rw [chkOr_yes HOk.out, show (xs.take n).length = n by simp; omega] at hcb
          have HCB := Lib.hid hcb
          rw [← hdd] at HDg hd1 hd2 hlen hn HZ
          generalize chk g (xs.take n) = KK at *
          have hsub : (xs.length : Int) - (d : Int) = (n : Int) := by omega
          have hnc : n < c1 := by omega
          have hnc2 : n ≤ c1 := by omega
          have hnl : n ≤ xs.length := by omega
          have hle : ¬ ((xs.length : Int) < (d : Int)) := by omega
          have hdn : ¬ ((d : Int) < 0) := by omega
          have hmk := run_make_row' (P := Try.prog) 28 3 (.int .i64 0) 8 Try.underlying28 Try.infoInt rfl .i64 .i64 d (by omega) (by omega)
          have hRR : (R == R) = true := by simp
          clear hcb hcc hbw hn hdd hg hbb HNo HSh HIf HOk
          go_wp2_with (first | (go_at_call 20; ((with_reducible refine (HDg.out _).mono ?_); rintro e w' ⟨rfl, rfl⟩)) | (go_at_call 28; ((with_reducible refine H1.out.mono ?_); rintro e w' ⟨rfl, rfl⟩)))
          refine wp_region_any (by kernel_rfl) ?_
          change wpAny _ _ _ _ _ _ _ (World.drew _)
          refine wpAny_take (i := 0) (v := ?v0) rfl (by kernel_rfl) (by kernel_rfl) (by kernel_rfl) (fun _ _ _ h => h) (Or.inl ⟨by kernel_rfl, ?h0⟩) ?_
          case h0 => intro w; go_simp; try with_reducible rfl
          go_simp
          refine wpAny_take (i := 1) (v := ?v1) rfl (by kernel_rfl) (by kernel_rfl) (by kernel_rfl) (fun _ _ _ h => h) (Or.inl ⟨by kernel_rfl, ?h1⟩) ?_
          case h1 => intro w; go_simp; try with_reducible rfl
          go_simp
          refine wpAny_take (i := 2) (v := ?v2) rfl (by kernel_rfl) (by kernel_rfl) (by kernel_rfl) (fun _ _ _ h => h) (Or.inl ⟨by kernel_rfl, ?h2⟩) ?_
          case h2 => intro w; go_simp; try with_reducible rfl
          go_simp
          refine wpAny_take (i := 3) (v := ?v3) rfl (by kernel_rfl) (by kernel_rfl) (by kernel_rfl) (fun _ _ _ h => h) (Or.inl ⟨by kernel_rfl, ?h3⟩) ?_
          case h3 => intro w; go_simp; try with_reducible rfl
          go_simp
          refine wpAny_take (i := 4) (v := ?v4) rfl (by kernel_rfl) (by kernel_rfl) (by kernel_rfl) (fun _ _ _ h => h) (Or.inl ⟨by kernel_rfl, ?h4⟩) ?_
          case h4 => intro w; go_simp; try with_reducible rfl
          go_simp
          refine wpAny_take (i := 6) (v := ?v6) rfl (by kernel_rfl) (by kernel_rfl) (by kernel_rfl) (fun _ _ _ h => h) (Or.inl ⟨by kernel_rfl, ?h6⟩) ?_
          case h6 => intro w; go_simp; try with_reducible rfl
          go_simp
          refine wpAny_take (i := 7) (v := ?v7) rfl (by kernel_rfl) (by kernel_rfl) (by kernel_rfl) (fun _ _ _ h => h) (Or.inl ⟨by kernel_rfl, ?h7⟩) ?_
          case h7 => intro w; go_simp; try with_reducible rfl
          go_simp
          refine wpAny_take (i := 8) (v := ?v8) rfl (by kernel_rfl) (by kernel_rfl) (by kernel_rfl) (fun _ _ _ h => h) (Or.inl ⟨by kernel_rfl, ?h8⟩) ?_
          case h8 => intro w; go_simp; try with_reducible rfl
          go_simp
          rw [if_neg (show ¬ c1 = n by omega)]
          refine wpAny_ready (rs := [5]) (by kernel_rfl) (by simp) (AllReady.cons rfl (fun K hK => ?_) AllReady.nil)
          go_simp
          refine HCB.out.mono ?_
          rintro e w5 ⟨v5, c5, rfl, o5, b5⟩
          have V5 := Lib.hid (own_of_list o5).ints
          have I5 := Lib.hid (Ints.next (w := w2.drew) I2.out b5)
          have B5 := Lib.hid (Below.next B2.out.drew (Nat.le_refl _) b5)
          clear o5 b5
          go_simp
          refine hK _ _ ?_
          clear hK K
          have hsm := sameInts_any v5 (some ⟨b, off + n, none⟩) c5 (c1 - n) w5.heap.size w5.heap.size KK (xs.drop n) w5 V5.out I5.out.dropN hKl
          rw [List.length_drop, HEq.out] at hsm
          have HSm := Lib.hid hsm
          clear hsm
          refine wpAny_ready (rs := [9]) (by kernel_rfl) (by simp) (AllReady.cons rfl (fun K hK => ?_) AllReady.nil)
          go_simp
          refine HSm.out.mono ?_
          rintro e w6 ⟨rfl, n6, rfl⟩
          have B6 := Lib.hid (below_drewN B5.out n6)
          clear HSm
          go_simp
          refine hK _ _ ?_
          clear hK K
          generalize w5.drewN n6 = w6 at *
          refine wpAny_take (i := 10) (v := ?v10) rfl (by kernel_rfl) (by kernel_rfl) (by kernel_rfl) (fun _ _ _ h => h) (Or.inl ⟨by kernel_rfl, ?h10⟩) ?_
          case h10 => intro w; go_simp; try with_reducible rfl
          go_simp
          refine wpAny_take (i := 11) (v := ?v11) rfl (by kernel_rfl) (by kernel_rfl) (by kernel_rfl) (fun _ _ _ h => h) (Or.inl ⟨by kernel_rfl, ?h11⟩) ?_
          case h11 => intro w; go_simp; try with_reducible rfl
          go_simp
          refine wpAny_take (i := 12) (v := ?v12) rfl (by kernel_rfl) (by kernel_rfl) (by kernel_rfl) (fun _ _ _ h => h) (Or.inl ⟨by kernel_rfl, ?h12⟩) ?_
          case h12 => intro w; go_simp; try with_reducible rfl
          go_simp
          refine wpAny_take (i := 14) (v := ?v14) rfl (by kernel_rfl) (by kernel_rfl) (by kernel_rfl) (fun _ _ _ h => h) (Or.inl ⟨by kernel_rfl, ?h14⟩) ?_
          case h14 => intro w; go_simp; try with_reducible rfl
          go_simp
          refine wpAny_ready (rs := [13]) (by kernel_rfl) (by simp) (AllReady.cons rfl (fun K hK => ?_) AllReady.nil)
          go_simp
          refine hK _ _ ?_
          clear hK K
          have hz := checkPasses_any (some ⟨w6.heap.size, 0, none⟩) d (zeros d) g (w6.alloc (.cells (madeCells #[.int .i64 0] d) 3)) ((zeros_ints w6 d).more (by simp)) (by rw [zeros_length]; exact Nat.le_refl _) (by unfold maxLen; omega)
          rw [HZ.out, zeros_length] at hz
          have HZz := Lib.hid hz
          have B7 := Lib.hid (B6.out.alloc B6.out.size (.cells (madeCells #[.int .i64 0] d) 3))
          clear hz hmk
          refine wpAny_ready (rs := [15]) (by kernel_rfl) (by simp) (AllReady.cons rfl (fun K hK => ?_) AllReady.nil)
          go_simp
          refine HZz.out.mono ?_
          rintro e w8 ⟨rfl, b8⟩
          have B8 := Lib.hid (Below.next B7.out (Nat.le_refl _) b8)
          clear b8 HZz
          go_simp
          refine hK _ _ ?_
          clear hK K
          refine wpAny_take (i := 16) (v := ?v16) rfl (by kernel_rfl) (by kernel_rfl) (by kernel_rfl) (fun _ _ _ h => h) (Or.inl ⟨by kernel_rfl, ?h16⟩) ?_
          case h16 => intro w; go_simp; try with_reducible rfl
          go_simp
          refine wpAny_take (i := 17) (v := ?v17) rfl (by kernel_rfl) (by kernel_rfl) (by kernel_rfl) (fun _ _ _ h => h) (Or.inl ⟨by kernel_rfl, ?h17⟩) ?_
          case h17 => intro w; go_simp; try with_reducible rfl
          go_simp
          refine wpAny_done (by kernel_rfl) ?_ _
          go_wp2
          go_ret
          exact ⟨rfl, B8.out⟩
        · have hRf : R = false := HSh.out hlen
          subst hRf
          have hle : (xs.length : Int) < (deg g : Int) := by omega
          clear hg hbb HNo HSh HIf hlen
          go_wp2_with (first | (go_at_call 20; ((with_reducible refine (HDg.out _).mono ?_); rintro e w' ⟨rfl, rfl⟩)) | (go_at_call 28; ((with_reducible refine H1.out.mono ?_); rintro e w' ⟨rfl, rfl⟩)))
          refine (alive_any w2).mono ?_
          rintro e w5 ⟨rfl, b5⟩
          have B5 := Lib.hid (Below.next B2.out (Nat.le_refl _) b5)
          clear b5
          go_wp2
          go_ret
          exact ⟨rfl, B5.out⟩
  · go_enter Try.func7, Try.ntmps7
    go_wp2
    go_ret
    exact ⟨rfl, Below.refl _ _⟩
end Go.Proofs.Ytnmpeeailljdaaa
