/-
  The law of tables without a link, walked: it returns true for every list of bytes. Condition: bytes that can be read.
-/
import Derived.Test.YtnmhiagnmfpipaaRteLaw2
namespace Go.Proofs.Ytnmhiagnmfpipaa
open Go.RowKit

theorem ctL_ok {R : List (List Int)} {i to : Nat} (h : TiOk R) (_hi : i < R.length) (_hto : to < R.length) : TiOk (ctL R i to) := by
  refine ⟨by rw [ctL_len]; exact h.1, fun k hk => ?_⟩
  rw [ctL_len] at hk ⊢
  rw [ctL_row hk]
  obtain ⟨h1, h2, h3⟩ := h.2 k hk
  by_cases e : k = i
  · rw [if_pos e]
    refine ⟨by rw [List.length_set]; exact h1, fun j hj => ?_, ?_⟩
    · rw [el_set _ _ (by rw [h1]; exact hj)]
      split
      · omega
      · exact h2 j hj
    · rw [el_set _ _ (by rw [h1]; exact hk)]
      split
      · rfl
      · exact h3
  · rw [if_neg e]; exact ⟨h1, h2, h3⟩
theorem ctL_tg {R : List (List Int)} {i to a b : Nat} (h : TiOk R) (ha : a < R.length) (hb : b < R.length) : tg (ctL R i to) a b = cutG (tg R) i to a b := by
  unfold tg cutG
  rw [ctL_row ha]
  by_cases e : a = i
  · rw [if_pos e, el_set _ _ (by rw [tiOk_row h ha]; exact hb)]
    by_cases e2 : b = to
    · rw [if_pos e2, if_pos ⟨e, e2⟩]
    · rw [if_neg e2, if_neg (fun h => e2 h.2)]
  · rw [if_neg e, if_neg (fun h => e h.1)]
theorem cut_more {R : List (List Int)} {i to : Nat} (h : TiOk R) (_hi : i < R.length) (_hto : to < R.length) {k : Nat} (hk : k < R.length) (h0 : 0 ≤ el (lcL (ctL R i to) to) k) : 0 ≤ el (lcL R to) k ∧ el (lcL R to) k ≤ el (lcL (ctL R i to) to) k := by
  have h1 := lcL_is R to
  have h2 := lcL_is (ctL R i to) to
  rw [ctL_len] at h2
  exact h1.cut (h2.congrG fun a b ha hb => ctL_tg h ha hb) hk h0
theorem ctL_zero {R : List (List Int)} {i to : Nat} (h : TiOk R) (hi : i < R.length) (hto : to < R.length) : tg (ctL R i to) i to = 0 := by
  rw [ctL_tg h hi hto]
  unfold cutG
  rw [if_pos ⟨rfl, rfl⟩]
set_option maxRecDepth 100000 in
set_option maxHeartbeats 8000000 in
theorem walkCutLink (a : Option Addr) (c : Nat) (ds : List Int) (w : World) (hx : Ints .u8 w w.heap.size a ds) (hw : ∀ n ∈ ds, (Lit.int .u8 n).wf = true) (hc : ds.length ≤ c) (hcm : c ≤ maxLen) :
    Calls Try.prog 7 #[.slice a ds.length c] w fun e w' => e = .returned (.bool true) ∧ Below w.heap.size w w' := by
  have hb := isByte_of_wf hw
  clear hw
  by_cases hl : ds.length ≤ 1048576
  · have hl' : ¬ (1048576 : Int) < (ds.length : Int) := by omega
    go_enter Try.func7, Try.ntmps7
    go_wp2_with fail
    refine (drawCutLink_any a c ds w hx hb hc hcm).mono ?_
    rintro e w1 ⟨at_, ct, R, f, t, rfl, h7, hct, ht, b1⟩
    have H7 := Lib.hid h7
    have T1 := Lib.hid ht
    have B1 := Lib.hid b1
    clear hx hb hc hcm ht b1 hl hl' hct
    have hR7 := h7.2
    clear h7
    obtain ⟨X, hX⟩ : ∃ X, X = ctOr R f t := ⟨_, rfl⟩
    have HX := Lib.hid hX
    clear hX
    go_wp2_with fail
    refine (cutLink_any at_ ct R f t w1 T1.out).mono ?_
    rw [← HX.out]
    rintro e w2 ⟨g2, c2, rfl, hr2, o2, b2⟩
    clear hr2
    have X2 := Lib.hid (TblPost.rows o2)
    have T2 := Lib.hid (T1.out.next b2)
    have B2 := Lib.hid (Below.next B1.out (Nat.le_refl _) b2)
    clear o2 b2 T1 B1
    go_wp2_with fail
    refine (specCutLink_any at_ ct R f t w2 T2.out (by omega)).mono ?_
    rw [← HX.out]
    rintro e w3 ⟨g3, c3, rfl, hr3, o3, b3⟩
    clear hr3
    have W3 := Lib.hid o3.rows
    have X3 := Lib.hid (X2.out.next b3)
    have T3 := Lib.hid (T2.out.next b3)
    have B3 := Lib.hid (Below.next B2.out (Nat.le_refl _) b3)
    clear o3 b3 X2 T2 B2
    have zx : ((X.length : Int) != (X.length : Int)) = false := by simp
    have HAL := Lib.hid (aliveR2_from B3.out)
    by_cases h0 : X.length = 0
    · have z4 : ((X.length : Int) == 0) = true := by simp [h0]
      have h0' : (X.length : Int) = 0 := by omega
      go_wp2_with (go_at_call 18; (with_reducible refine HAL.out.mono ?_); rintro e w5 ⟨rfl, h5⟩)
      go_ret
      exact ⟨rfl, h5⟩
    · have z4 : ((X.length : Int) == 0) = false := by rw [beq_eq_false_iff_ne]; omega
      have h0' : ¬ (X.length : Int) = 0 := by omega
      have hyes : EndsOk R f t := by
        by_cases h : EndsOk R f t
        · exact h
        · rw [HX.out, ctOr_no h] at h0; exact absurd rfl h0
      obtain ⟨i, tz, rfl, rfl, hi, htz, hok⟩ := endsOk_cases hyes
      have hXe : X = ctL R i tz := by rw [HX.out, ctOr_yes hok hi htz]
      have hXl : X.length = R.length := by rw [hXe, ctL_len]
      have hXok : TiOk X := by rw [hXe]; exact ctL_ok hok hi htz
      have HXM : Hid (∀ k, k < R.length → 0 ≤ el (lcL X tz) k → 0 ≤ el (lcL R tz) k ∧ el (lcL R tz) k ≤ el (lcL X tz) k) := fun k hk h => by
        rw [hXe] at h ⊢
        exact cut_more hok hi htz hk h
      have HX0 : Hid (tg X i tz = 0) := by
        show tg X i tz = 0
        rw [hXe]; exact ctL_zero hok hi htz
      have HOK := Lib.hid hok
      have HXOK := Lib.hid hXok
      have HI := Lib.hid hi
      have HTZ := Lib.hid htz
      have HXL := Lib.hid hXl
      have HLA := Lib.hid (fun W h => by have h1 := leastCosts_any at_ ct R (tz : Int) W h; rw [lsOr_yes hok htz] at h1; exact h1)
      have HLB := Lib.hid (fun W h => by have h1 := leastCosts_any g2 c2 X (tz : Int) W h; rw [lsOr_yes hXok (by rw [hXl]; exact htz)] at h1; exact h1)
      have HCV := Lib.hid (fun W B h => costsValid_is g2 c2 B X true W h (decide_eq_true hXok))
      have hzr : ∀ k, k < X.length → (rwI X k).length = X.length := fun k hk => tiOk_row hXok hk
      have HZR := Lib.hid hzr
      have hX7 : X.length ≤ 7 := by omega
      have hiI : (i : Int) < (X.length : Int) := by omega
      have htzI : (tz : Int) < (X.length : Int) := by omega
      clear h0 hyes hi htz hok hXe hXok hzr hXl hR7 HX
      go_wp2
      go_loopw [8] (fun x wr => ∃ k q : Nat, k ≤ X.length ∧ x = .int .i64 (k : Int) ∧ wr = w3.drewN q) (fun x _ => X.length - (intOf x).toNat)
      case atStart => exact ⟨0, 0, Nat.zero_le _, rfl, rfl⟩
      case round =>
        obtain ⟨k, q, hk, rfl, hwr⟩ := hrel
        have XW := Lib.hid (show RowsL wr w3.heap.size g2 X by rw [hwr]; exact X3.out.drewN q)
        have WW := Lib.hid (show RowsL wr w3.heap.size g3 X by rw [hwr]; exact W3.out.drewN q)
        have HWR := Lib.hid hwr
        clear hwr
        by_cases hlt : k < X.length
        · have hltI : (k : Int) < (X.length : Int) := by omega
          have HLT := Lib.hid hlt
          obtain ⟨b1, off1, ad1, cp1, rfl, hrow1, h11, h12, hin1⟩ := XW.out.at_ hlt
          obtain ⟨b2, off2, ad2, cp2, rfl, hrow2, h21, h22, hin2⟩ := WW.out.at_ hlt
          have hzk := HZR.out k hlt
          have HSM := Lib.hid (fun m => show Calls Try.prog 21 #[.slice ad1 X.length cp1, .slice ad2 X.length cp2] (wr.drewN m) fun e w' => e = .returned (.bool true) ∧ ∃ n, w' = (wr.drewN m).drewN n by
            have h := sameInts_any ad1 ad2 cp1 cp2 w3.heap.size w3.heap.size (rwI X k) (rwI X k) (wr.drewN m) (hin1.drewN m) (hin2.drewN m) (by omega)
            rw [hzk, decide_eq_true rfl] at h
            exact h)
          rw [hzk] at hrow1 hrow2
          clear hin1 hin2 h11 h12 h21 h22 hzk hlt
          go_wp2
          go_quiet ((go_at_call 21; with_reducible exact Calls.quiet_of (HSM.out _)))
          go_wp2
          go_roundw
          case rel => exact ⟨k + 1, _, HLT.out, by go_num, by rw [HWR.out, World.drewN_drewN]⟩
          case measure => have := HLT.out; simp [intOf]; omega
        · obtain rfl : X.length = k := by omega
          have hsz : w3.heap.size = wr.heap.size := by rw [HWR.out]; rfl
          have T4 := Lib.hid (show RowsL wr wr.heap.size at_ R by rw [← hsz, HWR.out]; exact T3.out.drewN q)
          have X4 := Lib.hid (show RowsL wr wr.heap.size g2 X by rw [← hsz]; exact XW.out)
          have B4 := Lib.hid (show Below w.heap.size w wr by rw [HWR.out]; exact below_drewN B3.out q)
          have HAr := Lib.hid (HLA.out wr T4.out)
          have hAl : (lcL R tz).length = X.length := by rw [lcL_len]; exact HXL.out.symm
          obtain ⟨A, hA⟩ : ∃ A, A = lcL R tz := ⟨_, rfl⟩
          obtain ⟨C, hC⟩ : ∃ C, C = lcL X tz := ⟨_, rfl⟩
          have hCl : C.length = X.length := by rw [hC, lcL_len]
          rw [← hA] at HAr hAl
          rw [← hA, ← hC] at HXM
          rw [← hC] at HLB
          clear hsz HLA hA hC XW WW HWR X3 W3 T3 B3 hlt hk
          go_wp2_with fail
          refine HAr.out.mono ?_
          rintro e w5 ⟨g5, c5, rfl, hr5, o5, b5⟩
          rw [hAl]
          have A5 := Lib.hid (own_of_list o5).ints
          have X5 := Lib.hid (X4.out.next b5)
          have B5 := Lib.hid (Below.next B4.out (Nat.le_refl _) b5)
          clear hr5 o5 b5 X4 T4 B4 HAr
          go_wp2_with fail
          refine (HLB.out w5 X5.out).mono ?_
          rintro e w6 ⟨g6, c6, rfl, hr6, o6, b6⟩
          rw [hCl]
          have C6 := Lib.hid (own_of_list o6).ints
          have A6 := Lib.hid (A5.out.next b6)
          have X6 := Lib.hid (X5.out.next b6)
          have B6 := Lib.hid (Below.next B5.out (Nat.le_refl _) b6)
          clear hr6 o6 b6 X5 A5 B5 HLB
          have hAl' := Lib.hid hAl
          have hCl' := Lib.hid hCl
          clear hAl hCl
          go_wp2
          go_loopw [11] (fun x wr => ∃ k q : Nat, k ≤ X.length ∧ x = .int .i64 (k : Int) ∧ wr = w6.drewN q) (fun x _ => X.length - (intOf x).toNat)
          case atStart => exact ⟨0, 0, Nat.zero_le _, rfl, rfl⟩
          case round =>
            obtain ⟨k, q2, hk, rfl, rfl⟩ := hrel
            by_cases hlt : k < X.length
            · have hltI : (k : Int) < (X.length : Int) := by omega
              have HLT := Lib.hid hlt
              obtain ⟨ba, oa, rfl, _, hca⟩ := A6.out.at_ (i := k) (by rw [hAl'.out]; exact hlt)
              obtain ⟨bc, oc, rfl, _, hcc⟩ := C6.out.at_ (i := k) (by rw [hCl'.out]; exact hlt)
              have hxm := HXM.out k (by rw [← HXL.out]; exact hlt)
              generalize el A k = x1 at *
              generalize el C k = y1 at *
              clear hlt
              by_cases hy : 0 ≤ y1
              · obtain ⟨m1, m2⟩ := hxm hy
                have e1 : decide (0 ≤ y1) = true := decide_eq_true hy
                have e2 : decide (x1 < 0) = false := decide_eq_false (by omega)
                have e3 : decide (y1 < x1) = false := decide_eq_false (by omega)
                clear hxm m1 m2
                go_wp2
                go_quiet (fail)
                go_wp2
                go_roundw
                case rel => exact ⟨k + 1, _, HLT.out, by go_num, rfl⟩
                case measure => have := HLT.out; simp [intOf]; omega
              · have e1 : decide (0 ≤ y1) = false := decide_eq_false hy
                clear hxm
                go_wp2
                go_quiet (fail)
                go_wp2
                go_roundw
                case rel => exact ⟨k + 1, _, HLT.out, by go_num, rfl⟩
                case measure => have := HLT.out; simp [intOf]; omega
            · obtain rfl : X.length = k := by omega
              have HCV2 := Lib.hid (HCV.out (w6.drewN q2) w6.heap.size (X6.out.drewN q2))
              obtain ⟨b1, off1, ad1, cp1, b2, off2, rfl, hrow, rfl, hg⟩ := tbl_cells (X6.out.drewN q2) HXOK.out (i := i) (j := tz) (by rw [HXL.out]; exact HI.out) (by rw [HXL.out]; exact HTZ.out)
              rw [HX0.out] at hg
              go_wp2_with (go_at_call 16; ((with_reducible refine HCV2.out.mono ?_); rintro e w7 ⟨rfl, rfl⟩))
              go_ret
              exact ⟨rfl, below_drewN B6.out q2⟩
  · have hl' : (1048576 : Int) < (ds.length : Int) := by omega
    go_enter Try.func7, Try.ntmps7
    go_wp2
    go_ret
    exact ⟨rfl, Below.refl _ _⟩
end Go.Proofs.Ytnmhiagnmfpipaa
