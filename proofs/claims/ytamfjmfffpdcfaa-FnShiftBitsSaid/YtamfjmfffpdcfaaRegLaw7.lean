/-
  The law of ShiftBits, walked: it returns true for every code, and writes into nothing that was there.
-/
import Derived.Test.YtamfjmfffpdcfaaRegDraw2
import Derived.Test.YtamfjmfffpdcfaaRegLaw1
import Derived.Test.YtamfjmfffpdcfaaLawMath
namespace Go.Proofs.Ytamfjmfffpdcfaa
open Go.RowKit

theorem outs_ok {t s n : Nat} (h : n ≤ 1024) : bitsOk (outs t s n) = true := bitsOk_of (by rw [outs_length]; exact h) (fun i hi => by
  rw [outs_el (by rw [outs_length] at hi; exact hi)]; exact outAt_bit _ _ _)

theorem outsH {T S H : Nat} (hr : regOk (T : Int) (S : Int) = true) (hH : H ≤ 1024) : outsOr (T : Int) (S : Int) (H : Int) = outs T S H := by
  have : shOk (T : Int) (S : Int) (H : Int) = true := by
    simp only [shOk, hr, Bool.true_and, Bool.and_eq_true, decide_eq_true_eq]; omega
  simp [outsOr, this]

set_option maxRecDepth 100000 in
set_option maxHeartbeats 4000000 in
theorem walkShiftBits (a : Option Addr) (c : Nat) (ds : List Int) (w : World) (hx : Ints .u8 w w.heap.size a ds) (hw : ∀ n ∈ ds, (Lit.int .u8 n).wf = true) (hc : ds.length ≤ c) (hcm : c ≤ maxLen) :
    Calls Try.prog 3 #[.slice a ds.length c] w fun e w' => e = .returned (.bool true) ∧ Below w.heap.size w w' := by
  have hb := isByte_of_wf hw
  clear hw
  by_cases hl : ds.length ≤ 1048576
  · go_enter Try.func3, Try.ntmps3
    go_wp2_with fail
    refine (drawShiftBits_any a c ds w hx hb hc hcm).mono ?_
    rintro e w1 ⟨g, s, n, hg, ⟨hs0, hs1⟩, rfl, b1⟩
    have B1 := Lib.hid b1
    clear hx hb hc hcm b1 hg
    obtain ⟨O, hO⟩ : ∃ O, O = outsOr g s n := ⟨_, rfl⟩
    have HO := Lib.hid hO
    have HOl := Lib.hid (show O.length ≤ 1048576 by rw [hO]; have := outsOr_length g s n; omega)
    clear hO
    have z3 : decide (O = O) = true := by simp
    go_wp2_with fail
    refine (shiftBits_any g s n w1).mono ?_
    rw [← HO.out]
    rintro e w2 ⟨v, cv, rfl, ⟨hcv1, hcv2⟩, o2, b2⟩
    have X2 := Lib.hid (own_of_list o2).ints
    have B2 := Lib.hid (Below.next B1.out (Nat.le_refl _) b2)
    clear o2 b2 B1 hcv2
    go_wp2_with fail
    refine (specShiftBits_any g s n w2).mono ?_
    rw [← HO.out]
    rintro e w3 ⟨v3, cv3, rfl, _, o3, b3⟩
    have Y3 := Lib.hid (own_of_list o3).ints
    have X3 := Lib.hid (X2.out.next b3)
    have B3 := Lib.hid (Below.next B2.out (Nat.le_refl _) b3)
    clear o3 b3 X2 B2
    go_wp2_with fail
    refine (sameInts_any v v3 cv cv3 w3.heap.size w3.heap.size O O w3 X3.out Y3.out HOl.out).mono ?_
    rintro e w4 ⟨rfl, n4, rfl⟩
    have B4 := Lib.hid (below_drewN B3.out n4)
    have X4 : Hid (Ints .i64 (w3.drewN n4) (w3.drewN n4).heap.size v O) := X3.out
    clear B3 X3 Y3 z3
    generalize w3.drewN n4 = w5 at *
    by_cases h0 : O.length = 0
    · have HA := Lib.hid (alive_any w5)
      rw [h0]
      clear h0
      by_cases hn : n = 0
      · subst hn
        go_wp2_with fail
        refine HA.out.mono ?_
        rintro e w6 ⟨rfl, b6⟩
        have B6 := Lib.hid (Below.next B4.out (Nat.le_refl _) b6)
        clear b6
        go_wp2
        go_ret
        exact ⟨rfl, B6.out⟩
      · have hne : ((0 : Int) != n) = true := by rw [bne_iff_ne]; exact fun e => hn e.symm
        clear hn
        go_wp2_with fail
        refine HA.out.mono ?_
        rintro e w6 ⟨rfl, b6⟩
        have B6 := Lib.hid (Below.next B4.out (Nat.le_refl _) b6)
        clear b6
        go_wp2
        go_ret
        exact ⟨rfl, B6.out⟩
    · have hok : shOk g s n = true := by
        cases hp : shOk g s n
        · exact absurd (by rw [HO.out]; simp [outsOr, hp]) h0
        · rfl
      obtain ⟨hro, hn0, hn1⟩ := shOk_parts hok
      obtain ⟨P, hP⟩ := perOr_ex g s
      have HPr := Lib.hid hP
      obtain ⟨N, rfl⟩ := Int.eq_ofNat_of_zero_le hn0
      have hE : O = outs g.toNat s.toNat N := by rw [HO.out]; simp [outsOr, hok]
      obtain ⟨T, S, rfl, rfl, hT, hS1, hS, hT2, hS2⟩ := regOk_nat hro
      rw [Int.toNat_natCast, Int.toNat_natCast] at hE
      have hPp : IsPer T S P ∧ P ≤ 65536 := by
        rcases hP with ⟨_, h1, h2⟩ | ⟨h1, _⟩
        · have := pow_degR (regOk_parts hro).1
          exact ⟨h1, by omega⟩
        · rw [hro] at h1; cases h1
      have hPl := hPp.2
      have hP1 := hPp.1.pos
      have HPer := Lib.hid hPp.1
      have hlen : O.length = N := by rw [hE, outs_length]
      have hN1 : 1 ≤ N := by omega
      have hN2 : N ≤ 1024 := by omega
      have HE := Lib.hid hE
      have HRo := Lib.hid hro
      have HB1 := Lib.hid (show bitsOk O = true by rw [hE]; exact outs_ok hN2)
      have HX5 := Lib.hid (show Ints .i64 w5 w5.heap.size v O from X4.out)
      have HLen := Lib.hid hlen
      rw [hlen] at hcv1 ⊢
      have z4 : ((N : Int) != (N : Int)) = false := by simp
      have z5 : ((N : Int) == 0) = false := by rw [beq_eq_false_iff_ne]; omega
      clear hok hro hP hE hT hS hS1 hS2 hT2 hPp hlen h0 hn0 hn1 X4
      go_wp2_with fail
      refine (shiftPeriod_any (T : Int) (S : Int) P HPr.out w5).mono ?_
      rintro e w6 ⟨rfl, b6⟩
      have B6 := Lib.hid (Below.next B4.out (Nat.le_refl _) b6)
      have X6 := Lib.hid (HX5.out.next b6)
      clear b6 B4 HX5 HPr
      obtain ⟨b, off, hv, hbb, hcell0⟩ := X6.out.at_ (i := 0) (by rw [HLen.out]; exact hN1)
      subst hv
      have HC0 := Lib.hid hcell0
      clear hcell0 hbb
      go_wp2
      go_loopw [8] (fun i wr => ∃ k : Nat, k ≤ N ∧ i = .int .i64 k ∧ ∃ m, wr = w6.drewN m) (fun i _ => N - (intOf i).toNat)
      case atStart => exact ⟨0, by omega, rfl, 0, rfl⟩
      case round =>
        obtain ⟨k, hk, rfl, m, rfl⟩ := hrel
        by_cases hlt : k + P < N
        · obtain ⟨b', off', e', _, hc1⟩ := X6.out.at_ (i := k) (by rw [HLen.out]; omega)
          injection e' with e'
          injection e' with e1 e2
          subst e1 e2
          obtain ⟨b', off', e', _, hc2⟩ := X6.out.at_ (i := k + P) (by rw [HLen.out]; exact hlt)
          injection e' with e'
          injection e' with e1 e2
          subst e1 e2
          rw [HE.out, outs_el (by omega)] at hc1 hc2
          rw [HPer.out.out] at hc2
          generalize outAt T S k = y at *
          have hne : (y != y) = false := by simp
          have tk : ((k : Int) + (P : Int)).toNat = k + P := by omega
          have hk2 : (k : Int) + (P : Int) < (N : Int) := by omega
          have k1 : (w6.drewN m).drew.cell? ⟨b, off + k, none⟩ = some (.int .i64 y) := hc1
          have k2 : (w6.drewN m).drew.cell? ⟨b, off + (k + P), none⟩ = some (.int .i64 y) := hc2
          go_wp2
          go_quiet (fail)
          go_wp2
          go_roundw
          case rel => exact ⟨k + 1, by omega, by go_num, _, rfl⟩
          case measure => simp [intOf]; omega
        · have hk2 : ¬ ((k : Int) + (P : Int) < (N : Int)) := by omega
          clear hlt
          have X7 : Hid (Ints .i64 (w6.drewN m).drew (w6.drewN m).drew.heap.size (some ⟨b, off, none⟩) O) := X6.out
          have B7 : Hid (Below w.heap.size w (w6.drewN m).drew) := below_drewN B6.out (m + 1)
          go_wp2
          refine wp_region_any (by kernel_rfl) ?_
          change wpAny _ _ _ _ _ _ _ (World.drew _)
          generalize (w6.drewN m).drew = w7 at *
          refine wpAny_take (i := 0) (v := ?v0) rfl (by kernel_rfl) (by kernel_rfl) (by kernel_rfl) (fun _ _ _ h => h) (Or.inl ⟨by kernel_rfl, ?h0⟩) ?_
          case h0 => intro w; go_simp; try with_reducible rfl
          go_simp
          have HIs := Lib.hid (isBits_any (some ⟨b, off, none⟩) cv w7.heap.size O w7 X7.out (by have := HOl.out; unfold maxLen; omega))
          rw [HB1.out, HLen.out] at HIs
          refine wpAny_ready (rs := [1]) (by kernel_rfl) (by simp) (AllReady.cons rfl (fun K hK => ?_) AllReady.nil)
          go_simp
          refine HIs.out.mono ?_
          rintro e w' ⟨rfl, rfl⟩
          go_simp
          refine hK _ _ ?_
          clear hK K
          obtain ⟨H, hH⟩ : ∃ H : Nat, H = N / 2 := ⟨_, rfl⟩
          have hH' : (N : Int) / 2 = (H : Int) := by omega
          have hHc : (H : Int) ≤ (cv : Int) := by omega
          have hHN : H ≤ N := by omega
          have hNn : 0 ≤ (N : Int) := by omega
          have HHn := Lib.hid hH
          clear hH
          refine wpAny_take (i := 2) (v := ?v2) rfl (by kernel_rfl) (by kernel_rfl) (by kernel_rfl) (fun _ _ _ h => h) (Or.inl ⟨by kernel_rfl, ?h2⟩) ?_
          case h2 => intro w; go_simp; try with_reducible rfl
          go_simp
          refine wpAny_take (i := 3) (v := ?v3) rfl (by kernel_rfl) (by kernel_rfl) (by kernel_rfl) (fun _ _ _ h => h) (Or.inl ⟨by kernel_rfl, ?h3⟩) ?_
          case h3 => intro w; go_simp; try with_reducible rfl
          go_simp
          refine wpAny_take (i := 4) (v := ?v4) rfl (by kernel_rfl) (by kernel_rfl) (by kernel_rfl) (fun _ _ _ h => h) (Or.inl ⟨by kernel_rfl, ?h4⟩) ?_
          case h4 => intro w; go_simp; try with_reducible rfl
          go_simp
          refine wpAny_take (i := 5) (v := ?v5) rfl (by kernel_rfl) (by kernel_rfl) (by kernel_rfl) (fun _ _ _ h => h) (Or.inl ⟨by kernel_rfl, ?h5⟩) ?_
          case h5 => intro w; go_simp; try with_reducible rfl
          go_simp
          have hwH : IntKind.i64.wrap (H : Int) = (H : Int) := (i64_wrap _).trans (wrap64_in (by omega))
          refine wpAny_take (i := 6) (v := ?v6) rfl (by kernel_rfl) (by kernel_rfl) (by kernel_rfl) (fun _ _ _ h => h) (Or.inl ⟨by kernel_rfl, ?h6⟩) ?_
          case h6 => intro w; go_simp; try with_reducible rfl
          go_simp
          refine wpAny_take (i := 8) (v := ?v8) rfl (by kernel_rfl) (by kernel_rfl) (by kernel_rfl) (fun _ _ _ h => h) (Or.inl ⟨by kernel_rfl, ?h8⟩) ?_
          case h8 => intro w; go_simp; try with_reducible rfl
          go_simp
          refine wpAny_take (i := 9) (v := ?v9) rfl (by kernel_rfl) (by kernel_rfl) (by kernel_rfl) (fun _ _ _ h => h) (Or.inl ⟨by kernel_rfl, ?h9⟩) ?_
          case h9 => intro w; go_simp; try with_reducible rfl
          go_simp
          refine wpAny_take (i := 10) (v := ?v10) rfl (by kernel_rfl) (by kernel_rfl) (by kernel_rfl) (fun _ _ _ h => h) (Or.inl ⟨by kernel_rfl, ?h10⟩) ?_
          case h10 => intro w; go_simp; try with_reducible rfl
          go_simp
          refine wpAny_take (i := 11) (v := ?v11) rfl (by kernel_rfl) (by kernel_rfl) (by kernel_rfl) (fun _ _ _ h => h) (Or.inl ⟨by kernel_rfl, ?h11⟩) ?_
          case h11 => intro w; go_simp; try with_reducible rfl
          go_simp
          clear hwH
          have hSB := shiftBits_any (T : Int) (S : Int) (H : Int) w7
          rw [show outsOr (T : Int) (S : Int) (H : Int) = outs T S H from outsH HRo.out (by omega)] at hSB
          have HSB := Lib.hid hSB
          clear hSB
          refine wpAny_ready (rs := [7]) (by kernel_rfl) (by simp) (AllReady.cons rfl (fun K hK => ?_) AllReady.nil)
          go_simp
          refine HSB.out.mono ?_
          rintro e w8 ⟨v8, cv8, rfl, _, o8, b8⟩
          have Y8 := Lib.hid (own_of_list o8).ints
          have X8 := Lib.hid (X7.out.next b8)
          have B8 := Lib.hid (Below.next B7.out (Nat.le_refl _) b8)
          clear o8 b8
          rw [outs_length]
          go_simp
          refine hK _ _ ?_
          clear hK K
          have hSm := sameInts_any v8 (some ⟨b, off, none⟩) cv8 cv w8.heap.size w8.heap.size (outs T S H) (O.take H) w8 Y8.out X8.out.take (by rw [outs_length]; omega)
          rw [outs_length, show (O.take H).length = H by rw [List.length_take, HLen.out]; omega, show outs T S H = O.take H by rw [HE.out, outs_take T S hHN]] at hSm
          have z6 : decide (O.take H = O.take H) = true := by simp
          rw [z6] at hSm
          have HSm := Lib.hid hSm
          clear hSm z6
          refine wpAny_ready (rs := [12]) (by kernel_rfl) (by simp) (AllReady.cons rfl (fun K hK => ?_) AllReady.nil)
          go_simp
          refine HSm.out.mono ?_
          rintro e w9 ⟨rfl, n9, rfl⟩
          have B9 := Lib.hid (below_drewN B8.out n9)
          have X9 : Hid (Ints .i64 (w8.drewN n9) (w8.drewN n9).heap.size (some ⟨b, off, none⟩) O) := X8.out
          go_simp
          refine hK _ _ ?_
          clear hK K
          generalize w8.drewN n9 = w9 at *
          refine wpAny_take (i := 13) (v := ?v13) rfl (by kernel_rfl) (by kernel_rfl) (by kernel_rfl) (fun _ _ _ h => h) (Or.inl ⟨by kernel_rfl, ?h13⟩) ?_
          case h13 => intro w; go_simp; try with_reducible rfl
          go_simp
          refine wpAny_take (i := 14) (v := ?v14) rfl (by kernel_rfl) (by kernel_rfl) (by kernel_rfl) (fun _ _ _ h => h) (Or.inl ⟨by kernel_rfl, ?h14⟩) ?_
          case h14 => intro w; go_simp; try with_reducible rfl
          go_simp
          obtain ⟨b', off', e', _, hc0⟩ := X9.out.at_ (i := 0) (by rw [HLen.out]; exact hN1)
          injection e' with e'
          injection e' with e1 e2
          subst e1 e2
          rw [HE.out, outs_el (by omega), show outAt T S 0 = (S : Int) % 2 from rfl] at hc0
          rw [Nat.add_zero] at hc0
          have hNp : (0 : Int) < (N : Int) := by omega
          have hS0 : 0 ≤ (S : Int) := by omega
          have hN0 : 0 < N := by omega
          refine wpAny_take (i := 15) (v := ?v15) rfl (by kernel_rfl) (by kernel_rfl) (by kernel_rfl) (fun _ _ _ h => h) (Or.inl ⟨by kernel_rfl, ?h15⟩) ?_
          case h15 => intro w; go_simp; try with_reducible rfl
          go_simp
          refine wpAny_take (i := 16) (v := ?v16) rfl (by kernel_rfl) (by kernel_rfl) (by kernel_rfl) (fun _ _ _ h => h) (Or.inl ⟨by kernel_rfl, ?h16⟩) ?_
          case h16 => intro w; go_simp; try with_reducible rfl
          go_simp
          refine wpAny_take (i := 18) (v := ?v18) rfl (by kernel_rfl) (by kernel_rfl) (by kernel_rfl) (fun _ _ _ h => h) (Or.inl ⟨by kernel_rfl, ?h18⟩) ?_
          case h18 => intro w; go_simp; try with_reducible rfl
          go_simp
          refine wpAny_take (i := 19) (v := ?v19) rfl (by kernel_rfl) (by kernel_rfl) (by kernel_rfl) (fun _ _ _ h => h) (Or.inl ⟨by kernel_rfl, ?h19⟩) ?_
          case h19 => intro w; go_simp; try with_reducible rfl
          go_simp
          refine wpAny_ready (rs := [17]) (by kernel_rfl) (by simp) (AllReady.cons rfl (fun K hK => ?_) AllReady.nil)
          go_simp
          refine hK _ _ ?_
          clear hK K
          refine wpAny_take (i := 20) (v := ?v20) rfl (by kernel_rfl) (by kernel_rfl) (by kernel_rfl) (fun _ _ _ h => h) (Or.inl ⟨by kernel_rfl, ?h20⟩) ?_
          case h20 => intro w; go_simp; try with_reducible rfl
          go_simp
          refine wpAny_take (i := 21) (v := ?v21) rfl (by kernel_rfl) (by kernel_rfl) (by kernel_rfl) (fun _ _ _ h => h) (Or.inl ⟨by kernel_rfl, ?h21⟩) ?_
          case h21 => intro w; go_simp; try with_reducible rfl
          go_simp
          refine wpAny_take (i := 22) (v := ?v22) rfl (by kernel_rfl) (by kernel_rfl) (by kernel_rfl) (fun _ _ _ h => h) (Or.inl ⟨by kernel_rfl, ?h22⟩) ?_
          case h22 => intro w; go_simp; try with_reducible rfl
          go_simp
          refine wpAny_done (by kernel_rfl) ?_ _
          go_wp2
          go_ret
          exact ⟨ret_bool (a := (S : Int) % 2 == (S : Int).tmod 2) (by rw [Int.tmod_eq_emod_of_nonneg hS0]; simp), B9.out⟩
  · go_enter Try.func3, Try.ntmps3
    go_wp2
    go_ret
    exact ⟨rfl, Below.refl _ _⟩
end Go.Proofs.Ytamfjmfffpdcfaa
