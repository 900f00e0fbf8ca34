/-
  The laws of the exactness of PowerStep and LeastPowers, walked: they return true for all arguments, and write into nothing that was there. No condition.
-/
import Derived.Test.YtlgcacoggikfcaaPwExact1
namespace Go.Proofs.Ytlgcacoggikfcaa
open Go.RowKit

theorem stOr_length (R : List (List Int)) (N T : Int) (P : List Int) : (stOr R N T P).length ≤ 5 := by
  by_cases h : LkOk R N T ∧ PwOk R.length P
  · rw [stOr_yes h.1 h.2, stL_length]; exact h.1.1.2
  · rw [show stOr R N T P = [] from if_neg h]; exact Nat.zero_le _
theorem lpL_length (R : List (List Int)) (N T : Int) : (lpL R N T).length ≤ 5 := by
  by_cases h : LkOk R N T
  · rw [(lpL_ok h).1]; exact h.1.2
  · rw [lpL_no h]; exact Nat.zero_le _
theorem lpPost_mono {f : FuncId} {args : Array Value} {R : List (List Int)} {N T : Int} {S : List Int} {M : Bool} {w : World} (h : Calls Try.prog f args w (LpPost R N T w)) (hS : lpL R N T = S) (hM : decide (MtOk R N T S) = M) :
    Calls Try.prog f args w fun e w' => ∃ v c, e = .returned (.tuple #[.slice v S.length c, .bool M]) ∧ OwnInts .i64 3 w' w.heap.size v S ∧ Below w.heap.size w w' := h.mono fun e w' => by
  rintro ⟨v, c, rfl, _, h2, h3⟩
  subst hS hM
  exact ⟨v, c, rfl, h2, h3⟩
set_option maxHeartbeats 4000000 in
theorem walkExactPowerStep (a : Option Addr) (c : Nat) (R : List (List Int)) (N T : Int) (v : Option Addr) (c' : Nat) (P : List Int) (w : World) (hr : RowsL w w.heap.size a R) (hlc : R.length ≤ c) (hcm : c ≤ maxLen) (hv : Ints .i64 w w.heap.size v P) (_hw : ∀ n ∈ P, (Lit.int .i64 n).wf = true) :
    Calls Try.prog 10 #[.agg #[.slice a R.length c, .int .i64 N, .int .i64 T], .slice v P.length c'] w fun e w' => e = .returned (.bool true) ∧ Below w.heap.size w w' := by
  have HR := Lib.hid hr
  have HB0 := Lib.hid (lbox_new w a R.length c N T 38)
  have HS := Lib.hid (szLinks_any a c R N T _ (HB0.out.rows hr) (Nat.le_trans hlc hcm))
  have hbg := HB0.out.g
  have hbn := HB0.out.n
  have hbt := HB0.out.t
  clear hr
  have HV := Lib.hid hv
  clear hv
  by_cases hp : P.length ≤ 1048576
  rotate_left
  · go_enter Try.func10, Try.ntmps10
    go_wp2
    go_ret
    exact ⟨rfl, HB0.out.b⟩
  have zp : decide (P = P) = true := by simp
  go_enter Try.func10, Try.ntmps10
  go_wp2_with fail
  refine HS.out.mono ?_
  rintro e w1 ⟨n, rfl, hn, hg⟩
  have B1 := Lib.hid (HB0.out.next hg)
  clear hg HS hbg hbn hbt
  by_cases hn0 : n < 0
  · go_wp2
    go_ret
    exact ⟨rfl, B1.out.b⟩
  · have HZ := Lib.hid (hn.resolve_left hn0).2
    clear hn HB0
    obtain ⟨S, hS⟩ : ∃ S, stOr R N T P = S := ⟨_, rfl⟩
    have hSl : S.length ≤ 1048576 := by rw [← hS]; exact Nat.le_trans (stOr_length R N T P) (by decide)
    have HD := Lib.hid hS
    clear hS
    have zs : decide (S = S) = true := by simp
    have hbg := B1.out.g
    have hbn := B1.out.n
    have hbt := B1.out.t
    go_wp2_with fail
    refine (toLinks_any a c R N T w1 (B1.out.rows HR.out) HZ.out).mono ?_
    rintro e w2 ⟨b_w2, rfl, l_w2, ⟨blk_w2, hc_w2⟩, hg⟩
    have C_w2 := Lib.hid hc_w2
    have B2 := Lib.hid (B1.out.next hg)
    clear hbg hbn hbt
    clear hc_w2
    go_wp2_with fail
    refine (toIntS_ints v c' P w2 ((HV.out.below B2.out.b).more B2.out.b.size) hp).mono ?_
    rintro e w3 ⟨rfl, p_w3, hg⟩
    have P3 := Lib.hid p_w3
    have B3 := Lib.hid (B2.out.next hg)
    clear p_w3
    have C3 := Lib.hid (C_w2.out.next hg)
    have HL := specPowerStep_any (some ⟨b_w2, 0, none⟩) (some ⟨w2.heap.size, 0, none⟩) R.length P.length R N T P w3 (C3.out.rows fun _ hi => HZ.out.row hi) P3.out
    rw [HD.out] at HL
    have HL := Lib.hid HL
    clear hg
    go_wp2_with fail
    refine HL.out.mono ?_
    rintro e w4 ⟨x0, cx0, rfl, _, o4, hg⟩
    have W4 : Hid (LI w4 w4.heap.size x0 S) := ⟨o4.ints9, Nat.le_refl _⟩
    have B4 := Lib.hid (B3.out.next hg)
    clear hg o4 C_w2 C3 P3 B3 B2 B1 HL
    have hbg := B4.out.g
    have hbn := B4.out.n
    have hbt := B4.out.t
    go_wp2_with fail
    refine (toLinks_any a c R N T w4 (B4.out.rows HR.out) HZ.out).mono ?_
    rintro e w5 ⟨b_w5, rfl, l_w5, ⟨blk_w5, hc_w5⟩, hg⟩
    have C_w5 := Lib.hid hc_w5
    have B5 := Lib.hid (B4.out.next hg)
    clear hbg hbn hbt
    have W5 := Lib.hid (W4.out.next hg)
    have HK : Hid (∀ i, i < R.length → blk_w5 i < w5.heap.size) := fun i hi => (hc_w5.at_ i hi).2.lt
    clear hc_w5
    have E0 := Lib.hid (XE.new B5.out C_w5.out)
    have W0 := Lib.hid (W5.out.next (alloc_belowX w5 (.cells #[.slice (some ⟨b_w5, 0, none⟩) R.length R.length, .int .i64 N, .int .i64 T] 25)))
    obtain ⟨wa, hwa⟩ : ∃ wa, wa = w5.alloc (.cells #[.slice (some ⟨b_w5, 0, none⟩) R.length R.length, .int .i64 N, .int .i64 T] 25) := ⟨_, rfl⟩
    have sa : w5.heap.size ≤ wa.heap.size := by rw [hwa]; simp
    have hw4 : w.heap.size < w4.heap.size := B4.out.lt
    have s5 : w4.heap.size ≤ w5.heap.size := W5.out.s
    rw [← hwa] at E0 W0
    clear hg
    go_wp2_with fail
    rw [← hwa]
    refine (toIntS_own v c' P wa ((HV.out.below E0.out.box.b).more E0.out.box.b.size) hp).mono ?_
    rintro e w6 ⟨x1, rfl, p6, hg⟩
    have X6 := Lib.hid p6
    have E6 := Lib.hid (E0.out.next hg)
    have W6 := Lib.hid (W0.out.next hg)
    have s6 : wa.heap.size ≤ w6.heap.size := hg.size
    clear p6 hg E0 W0 B5 B4 C_w5 W5 W4 hwa
    have HI := powerStep_any (some ⟨b_w5, 0, none⟩) x1 R.length P.length R N T P w6 (E6.out.rows HZ.out) X6.out.ints
    rw [HD.out] at HI
    have HI := Lib.hid HI
    have v1 := E6.out.var.g
    have v2 := E6.out.var.n
    have v3 := E6.out.var.t
    go_wp2_with fail
    refine HI.out.mono ?_
    rintro e w7 ⟨g0, cg0, rfl, _, o7, hg⟩
    have G7 := Lib.hid (own_of_list o7)
    have X7 := Lib.hid (X6.out.next hg)
    have E7 := Lib.hid (E6.out.next hg)
    have W7 := Lib.hid (W6.out.next hg)
    have s7 : w6.heap.size ≤ w7.heap.size := hg.size
    clear hg o7 E6 X6 W6 HI v1 v2 v3
    go_wp2_with fail
    refine (eqIntS_any _ _ _ _ w7.heap.size w4.heap.size S S w7 G7.out.ints W7.out.i hSl).mono ?_
    rintro e w8' ⟨rfl, n8, rfl⟩
    have G8 := Lib.hid (G7.out.drewN n8)
    have X8 := Lib.hid (X7.out.drewN n8)
    have E8 := Lib.hid (E7.out.drewN n8)
    have W8 := Lib.hid (W7.out.drewN n8)
    have s8 : w7.heap.size ≤ (w7.drewN n8).heap.size := Nat.le_refl _
    clear G7 E7 W7 X7
    generalize w7.drewN n8 = w8 at *
    have v1 := E8.out.var.g
    have v2 := E8.out.var.n
    have v3 := E8.out.var.t
    have hbg := E8.out.box.g
    have hbn := E8.out.box.n
    have hbt := E8.out.box.t
    go_wp2
    go_region_law (first
      | (go_simp; go_at_call 28; refine (eqLinks_same _ _ _ _ R N T _ (EE.out.rows HZ.out) CC.out HZ.out).mono ?_; rintro e wq ⟨rfl, hq⟩; have EQ := Lib.hid (EE.out.next hq); have BQ := Lib.hid (Below.next BT.out (Nat.le_refl _) hq); have k1 := EQ.out.var.g; have k2 := EQ.out.var.n; have k3 := EQ.out.var.t; clear hq)
      | (go_simp; go_at_call 27; refine (toLinks_any a c R N T _ ((E8.out.drewN 1).box.rows HR.out) HZ.out).mono ?_; rintro e wt ⟨bt, rfl, _, ⟨blkt, hct⟩, ht⟩; have EE := Lib.hid ((E8.out.drewN 1).next ht); have BT := Lib.hid (Below.next (below_drewN (Below.refl w8.heap.size w8) 1) (Nat.le_refl _) ht); have CC := Lib.hid (CpR.rows hct fun _ hi => HZ.out.row hi); have k1 := EE.out.var.g; have k2 := EE.out.var.n; have k3 := EE.out.var.t; have k4 := EE.out.box.g; have k5 := EE.out.box.n; have k6 := EE.out.box.t; clear hct ht)
      | fail)
    all_goals
      have G9 := Lib.hid (G8.out.next BQ.out)
      have W9 := Lib.hid (W8.out.next BQ.out)
      have s9 : w8.heap.size ≤ wq.heap.size := BQ.out.size
      have X9 := Lib.hid (X8.out.next BQ.out)
      clear X8
      clear G8 W8 E8 EE CC BT BQ v1 v2 v3 hbg hbn hbt k1 k2 k3 k4 k5 k6
      go_wp2_with fail
      refine (toIntS_ints v c' P wq ((HV.out.below EQ.out.box.b).more EQ.out.box.b.size) hp).mono ?_
      rintro e w10 ⟨rfl, p10, hg⟩
      have P10 := Lib.hid p10
      have X10 := Lib.hid (X9.out.next hg)
      have E10 := Lib.hid (EQ.out.next hg)
      have G10 := Lib.hid (G9.out.next hg)
      have W10 := Lib.hid (W9.out.next hg)
      have s10 : wq.heap.size ≤ w10.heap.size := hg.size
      clear p10 hg X9 EQ G9 W9
      go_wp2_with fail
      refine (eqIntS_any _ _ _ _ w6.heap.size w10.heap.size P P w10 X10.out.ints P10.out hp).mono ?_
      rintro e w11' ⟨rfl, n11, rfl⟩
      have X11 := Lib.hid (X10.out.drewN n11)
      have E11 := Lib.hid (E10.out.drewN n11)
      have G11 := Lib.hid (G10.out.drewN n11)
      have W11 := Lib.hid (W10.out.drewN n11)
      have s11 : w10.heap.size ≤ (w10.drewN n11).heap.size := Nat.le_refl _
      clear X10 E10 G10 W10 P10
      generalize w10.drewN n11 = w11 at *
      have v1 := E11.out.var.g
      have v2 := E11.out.var.n
      have v3 := E11.out.var.t
      go_wp2_with fail
      refine (markLinks_any b_w5 R.length w5.heap.size R N T blk_w5 w11 E11.out.cp HK.out HZ.out).mono ?_
      rintro e w12 ⟨K, rfl, hK, k12⟩
      have B12 := Lib.hid (E11.out.box.kept k12 (by omega))
      have G12 := Lib.hid (G11.out.keep k12 (.inr (by omega)))
      have W12 := Lib.hid (W11.out.kept k12 l_w5)
      have s12 : w11.heap.size ≤ w12.heap.size := k12.size
      have X12 := Lib.hid (X11.out.keep k12 (.inr (by omega)))
      clear k12 E11 G11 W11 X11 v1 v2 v3
      go_wp2_with fail
      refine (markIntS_own x1 _ K wa.heap.size w6.heap.size P w12 X12.out hp (by omega)).mono ?_
      rintro e w13 ⟨rfl, _, k13⟩
      have B13 := Lib.hid (B12.out.kept k13 (by omega))
      have G13 := Lib.hid (G12.out.keep k13 (.inr (Nat.le_refl _)))
      have W13 := Lib.hid (W12.out.kept k13 (by omega))
      have s13 : w12.heap.size ≤ w13.heap.size := k13.size
      clear k13 X12 B12 G12 W12
      have hk2 : ¬ (((K + P.length : Nat) : Int) < 0) := by omega
      go_wp2_with fail
      refine (eqIntS_any _ _ _ _ w7.heap.size w4.heap.size S S w13 G13.out.ints W13.out.i hSl).mono ?_
      rintro e w14' ⟨rfl, n14, rfl⟩
      have B14 := Lib.hid (B13.out.drewN n14)
      have G14 := Lib.hid (G13.out.drewN n14)
      have W14 := Lib.hid (W13.out.drewN n14)
      clear B13 G13 W13
      generalize w13.drewN n14 = w14 at *
      clear hk2
      go_wp2_with fail
      refine (markIntS_own g0 _ 1 w6.heap.size w7.heap.size S w14 G14.out hSl (by omega)).mono ?_
      rintro e w15 ⟨rfl, g15, k15⟩
      have G15 := Lib.hid g15
      have B15 := Lib.hid (B14.out.kept k15 (by omega))
      have W15 := Lib.hid (W14.out.kept k15 (by omega))
      clear k15 g15 G14 B14 W14
      go_wp2_with fail
      refine (heldIntS_any g0 w7.heap.size _ S.length 1 w15 G15.out.ints hSl (by omega)).mono ?_
      rintro e w16' ⟨rfl, rfl⟩
      have hbg := B15.out.g
      have hbn := B15.out.n
      have hbt := B15.out.t
      go_wp2_with fail
      refine (toLinks_any a c R N T w15 (B15.out.rows HR.out) HZ.out).mono ?_
      rintro e w16 ⟨b_w16, rfl, l_w16, ⟨blk_w16, hc_w16⟩, hg⟩
      have C_w16 := Lib.hid hc_w16
      have B16 := Lib.hid (B15.out.next hg)
      clear hbg hbn hbt
      have G16 := Lib.hid (G15.out.next hg)
      have W16 := Lib.hid (W15.out.next hg)
      clear hg
      clear hc_w16
      go_wp2_with fail
      refine (toIntS_ints v c' P w16 ((HV.out.below B16.out.b).more B16.out.b.size) hp).mono ?_
      rintro e w17 ⟨rfl, p17, hg⟩
      have P17 := Lib.hid p17
      have B17 := Lib.hid (B16.out.next hg)
      have G17 := Lib.hid (G16.out.next hg)
      have W17 := Lib.hid (W16.out.next hg)
      have C17 := Lib.hid (C_w16.out.next hg)
      clear p17 hg B16 G16 W16
      have HJ := powerStep_any (some ⟨b_w16, 0, none⟩) _ R.length P.length R N T P w17 (C17.out.rows fun _ hi => HZ.out.row hi) P17.out
      rw [HD.out] at HJ
      have HJ := Lib.hid HJ
      go_wp2_with fail
      refine HJ.out.mono ?_
      rintro e w18 ⟨h0, ch0, rfl, _, o18, hg⟩
      have H18 := Lib.hid o18.ints9
      have B18 := Lib.hid (B17.out.next hg)
      have G18 := Lib.hid (G17.out.next hg)
      have W18 := Lib.hid (W17.out.next hg)
      clear o18 hg B17 G17 W17 HJ
      go_wp2_with fail
      refine (eqIntS_any _ _ _ _ w18.heap.size w4.heap.size S S w18 H18.out W18.out.i hSl).mono ?_
      rintro e w19 ⟨rfl, n19, rfl⟩
      go_wp2_with fail
      refine (heldIntS_any g0 w7.heap.size _ S.length 1 (w18.drewN n19) G18.out.ints hSl (by omega)).mono ?_
      rintro e w20 ⟨rfl, rfl⟩
      go_wp2
      go_ret
      exact ⟨rfl, below_drewN B18.out.b n19⟩
set_option maxHeartbeats 4000000 in
theorem walkExactLeastPowers (a : Option Addr) (c : Nat) (R : List (List Int)) (N T : Int) (w : World) (hr : RowsL w w.heap.size a R) (hlc : R.length ≤ c) (hcm : c ≤ maxLen) :
    Calls Try.prog 11 #[.agg #[.slice a R.length c, .int .i64 N, .int .i64 T]] w fun e w' => e = .returned (.bool true) ∧ Below w.heap.size w w' := by
  have HR := Lib.hid hr
  have HB0 := Lib.hid (lbox_new w a R.length c N T 38)
  have HS := Lib.hid (szLinks_any a c R N T _ (HB0.out.rows hr) (Nat.le_trans hlc hcm))
  have hbg := HB0.out.g
  have hbn := HB0.out.n
  have hbt := HB0.out.t
  clear hr
  go_enter Try.func11, Try.ntmps11
  go_wp2_with fail
  refine HS.out.mono ?_
  rintro e w1 ⟨n, rfl, hn, hg⟩
  have B1 := Lib.hid (HB0.out.next hg)
  clear hg HS hbg hbn hbt
  by_cases hn0 : n < 0
  · go_wp2
    go_ret
    exact ⟨rfl, B1.out.b⟩
  · have HZ := Lib.hid (hn.resolve_left hn0).2
    clear hn HB0
    obtain ⟨S, hS⟩ : ∃ S, lpL R N T = S := ⟨_, rfl⟩
    have hSl : S.length ≤ 1048576 := by rw [← hS]; exact Nat.le_trans (lpL_length R N T) (by decide)
    obtain ⟨M, hM⟩ : ∃ M, decide (MtOk R N T S) = M := ⟨_, rfl⟩
    have HD := Lib.hid hS
    have HM := Lib.hid hM
    have zm : (M != M) = false := by simp
    clear hS hM
    have zs : decide (S = S) = true := by simp
    have hbg := B1.out.g
    have hbn := B1.out.n
    have hbt := B1.out.t
    go_wp2_with fail
    refine (toLinks_any a c R N T w1 (B1.out.rows HR.out) HZ.out).mono ?_
    rintro e w2 ⟨b_w2, rfl, l_w2, ⟨blk_w2, hc_w2⟩, hg⟩
    have C_w2 := Lib.hid hc_w2
    have B2 := Lib.hid (B1.out.next hg)
    clear hbg hbn hbt
    clear hc_w2
    have HL := lpPost_mono (specLeastPowers_any (some ⟨b_w2, 0, none⟩) R.length R N T w2 (C_w2.out.rows fun _ hi => HZ.out.row hi)) HD.out HM.out
    have HL := Lib.hid HL
    go_wp2_with fail
    refine HL.out.mono ?_
    rintro e w4 ⟨x0, cx0, rfl, o4, hg⟩
    have W4 : Hid (LI w4 w4.heap.size x0 S) := ⟨o4.ints9, Nat.le_refl _⟩
    have B4 := Lib.hid (B2.out.next hg)
    clear hg o4 C_w2 B2 B1 HL
    have hbg := B4.out.g
    have hbn := B4.out.n
    have hbt := B4.out.t
    go_wp2_with fail
    refine (toLinks_any a c R N T w4 (B4.out.rows HR.out) HZ.out).mono ?_
    rintro e w5 ⟨b_w5, rfl, l_w5, ⟨blk_w5, hc_w5⟩, hg⟩
    have C_w5 := Lib.hid hc_w5
    have B5 := Lib.hid (B4.out.next hg)
    clear hbg hbn hbt
    have W5 := Lib.hid (W4.out.next hg)
    have HK : Hid (∀ i, i < R.length → blk_w5 i < w5.heap.size) := fun i hi => (hc_w5.at_ i hi).2.lt
    clear hc_w5
    have E0 := Lib.hid (XE.new B5.out C_w5.out)
    have W0 := Lib.hid (W5.out.next (alloc_belowX w5 (.cells #[.slice (some ⟨b_w5, 0, none⟩) R.length R.length, .int .i64 N, .int .i64 T] 25)))
    obtain ⟨wa, hwa⟩ : ∃ wa, wa = w5.alloc (.cells #[.slice (some ⟨b_w5, 0, none⟩) R.length R.length, .int .i64 N, .int .i64 T] 25) := ⟨_, rfl⟩
    have sa : w5.heap.size ≤ wa.heap.size := by rw [hwa]; simp
    have hw4 : w.heap.size < w4.heap.size := B4.out.lt
    have s5 : w4.heap.size ≤ w5.heap.size := W5.out.s
    rw [← hwa] at E0 W0
    clear hg
    go_wp2_with fail
    rw [← hwa]
    have HI := Lib.hid (lpPost_mono (leastPowers_any (some ⟨b_w5, 0, none⟩) R.length R N T wa (E0.out.rows HZ.out)) HD.out HM.out)
    refine HI.out.mono ?_
    rintro e w7 ⟨g0, cg0, rfl, o7, hg⟩
    have G7 := Lib.hid (own_of_list o7)
    have E7 := Lib.hid (E0.out.next hg)
    have W7 := Lib.hid (W0.out.next hg)
    have s7 : wa.heap.size ≤ w7.heap.size := hg.size
    clear hg o7 E0 W0 B5 B4 C_w5 W5 W4 hwa HI
    go_wp2_with fail
    refine (eqIntS_any _ _ _ _ w7.heap.size w4.heap.size S S w7 G7.out.ints W7.out.i hSl).mono ?_
    rintro e w8' ⟨rfl, n8, rfl⟩
    have G8 := Lib.hid (G7.out.drewN n8)
    have E8 := Lib.hid (E7.out.drewN n8)
    have W8 := Lib.hid (W7.out.drewN n8)
    have s8 : w7.heap.size ≤ (w7.drewN n8).heap.size := Nat.le_refl _
    clear G7 E7 W7
    generalize w7.drewN n8 = w8 at *
    have v1 := E8.out.var.g
    have v2 := E8.out.var.n
    have v3 := E8.out.var.t
    have hbg := E8.out.box.g
    have hbn := E8.out.box.n
    have hbt := E8.out.box.t
    go_wp2
    go_region_law (first
      | (go_simp; go_at_call 28; refine (eqLinks_same _ _ _ _ R N T _ (EE.out.rows HZ.out) CC.out HZ.out).mono ?_; rintro e wq ⟨rfl, hq⟩; have EQ := Lib.hid (EE.out.next hq); have BQ := Lib.hid (Below.next BT.out (Nat.le_refl _) hq); have k1 := EQ.out.var.g; have k2 := EQ.out.var.n; have k3 := EQ.out.var.t; clear hq)
      | (go_simp; go_at_call 27; refine (toLinks_any a c R N T _ ((E8.out.drewN 1).box.rows HR.out) HZ.out).mono ?_; rintro e wt ⟨bt, rfl, _, ⟨blkt, hct⟩, ht⟩; have EE := Lib.hid ((E8.out.drewN 1).next ht); have BT := Lib.hid (Below.next (below_drewN (Below.refl w8.heap.size w8) 1) (Nat.le_refl _) ht); have CC := Lib.hid (CpR.rows hct fun _ hi => HZ.out.row hi); have k1 := EE.out.var.g; have k2 := EE.out.var.n; have k3 := EE.out.var.t; have k4 := EE.out.box.g; have k5 := EE.out.box.n; have k6 := EE.out.box.t; clear hct ht)
      | fail)
    all_goals
      have G9 := Lib.hid (G8.out.next BQ.out)
      have W9 := Lib.hid (W8.out.next BQ.out)
      have s9 : w8.heap.size ≤ wq.heap.size := BQ.out.size
      clear G8 W8 E8 EE CC BT BQ v1 v2 v3 hbg hbn hbt k1 k2 k3 k4 k5 k6
      have E11 := Lib.hid EQ.out
      have G11 := Lib.hid G9.out
      have W11 := Lib.hid W9.out
      have s11 : wq.heap.size ≤ wq.heap.size := Nat.le_refl _
      clear EQ G9 W9
      generalize wq = w11 at *
      have v1 := E11.out.var.g
      have v2 := E11.out.var.n
      have v3 := E11.out.var.t
      go_wp2_with fail
      refine (markLinks_any b_w5 R.length w5.heap.size R N T blk_w5 w11 E11.out.cp HK.out HZ.out).mono ?_
      rintro e w12 ⟨K, rfl, hK, k12⟩
      have B12 := Lib.hid (E11.out.box.kept k12 (by omega))
      have G12 := Lib.hid (G11.out.keep k12 (.inr (by omega)))
      have W12 := Lib.hid (W11.out.kept k12 l_w5)
      have s12 : w11.heap.size ≤ w12.heap.size := k12.size
      clear k12 E11 G11 W11 v1 v2 v3
      have B13 := Lib.hid B12.out
      have G13 := Lib.hid G12.out
      have W13 := Lib.hid W12.out
      clear B12 G12 W12
      have hk2 : ¬ ((K : Int) < 0) := by omega
      generalize w12 = w13 at *
      go_wp2_with fail
      refine (eqIntS_any _ _ _ _ w7.heap.size w4.heap.size S S w13 G13.out.ints W13.out.i hSl).mono ?_
      rintro e w14' ⟨rfl, n14, rfl⟩
      have B14 := Lib.hid (B13.out.drewN n14)
      have G14 := Lib.hid (G13.out.drewN n14)
      have W14 := Lib.hid (W13.out.drewN n14)
      clear B13 G13 W13
      generalize w13.drewN n14 = w14 at *
      clear hk2
      go_wp2_with fail
      refine (markIntS_own g0 _ 1 wa.heap.size w7.heap.size S w14 G14.out hSl (by omega)).mono ?_
      rintro e w15 ⟨rfl, g15, k15⟩
      have G15 := Lib.hid g15
      have B15 := Lib.hid (B14.out.kept k15 (by omega))
      have W15 := Lib.hid (W14.out.kept k15 (by omega))
      clear k15 g15 G14 B14 W14
      go_wp2_with fail
      refine (heldIntS_any g0 w7.heap.size _ S.length 1 w15 G15.out.ints hSl (by omega)).mono ?_
      rintro e w16' ⟨rfl, rfl⟩
      have hbg := B15.out.g
      have hbn := B15.out.n
      have hbt := B15.out.t
      go_wp2_with fail
      refine (toLinks_any a c R N T w15 (B15.out.rows HR.out) HZ.out).mono ?_
      rintro e w16 ⟨b_w16, rfl, l_w16, ⟨blk_w16, hc_w16⟩, hg⟩
      have C_w16 := Lib.hid hc_w16
      have B16 := Lib.hid (B15.out.next hg)
      clear hbg hbn hbt
      have G16 := Lib.hid (G15.out.next hg)
      have W16 := Lib.hid (W15.out.next hg)
      clear hg
      clear hc_w16
      have B17 := Lib.hid B16.out
      have G17 := Lib.hid G16.out
      have W17 := Lib.hid W16.out
      have HJ := Lib.hid (lpPost_mono (leastPowers_any (some ⟨b_w16, 0, none⟩) R.length R N T w16 (C_w16.out.rows fun _ hi => HZ.out.row hi)) HD.out HM.out)
      clear B16 G16 W16
      go_wp2_with fail
      refine HJ.out.mono ?_
      rintro e w18 ⟨h0, ch0, rfl, o18, hg⟩
      have H18 := Lib.hid o18.ints9
      have B18 := Lib.hid (B17.out.next hg)
      have G18 := Lib.hid (G17.out.next hg)
      have W18 := Lib.hid (W17.out.next hg)
      clear o18 hg B17 G17 W17 HJ
      go_wp2_with fail
      refine (eqIntS_any _ _ _ _ w18.heap.size w4.heap.size S S w18 H18.out W18.out.i hSl).mono ?_
      rintro e w19 ⟨rfl, n19, rfl⟩
      go_wp2_with fail
      refine (heldIntS_any g0 w7.heap.size _ S.length 1 (w18.drewN n19) G18.out.ints hSl (by omega)).mono ?_
      rintro e w20 ⟨rfl, rfl⟩
      go_wp2
      go_ret
      exact ⟨rfl, below_drewN B18.out.b n19⟩
end Go.Proofs.Ytlgcacoggikfcaa
