/-
  The law of routes, walked: it returns true for every list of bytes. Condition: bytes that can be read.
-/
import Derived.Test.YtnmhiagnmfpipaaRteLaw2
namespace Go.Proofs.Ytnmhiagnmfpipaa
open Go.RowKit

theorem rtOr_sm (R : List (List Int)) (f t : Int) : (rtOr R f t).length ≤ 1048576 := by
  by_cases h : RtYes R f t
  · obtain ⟨i, to, rfl, rfl, hi, hto, hok⟩ := endsOk_cases h.1
    rw [rtOr_yes h, rtI_len]
    have h1 := (rtL_ok hto hi h.2).len
    have := hok.1
    omega
  · rw [rtOr_no h]; exact Nat.zero_le _
theorem rtC_in {R : List (List Int)} {i to : Nat} {S : List Int} {L : List Nat} (hc : CostsAt R to S) (h : RtOk (tg R) (el S) R.length to i L) (h0 : 0 ≤ el S i) (hi : i < R.length) {k : Nat} (hk : k < L.length) : 0 ≤ rtC (tg R) L k ∧ rtC (tg R) L k ≤ 1000 := by
  have h1 := h.cost hk
  have h2 := (hc.dc i hi).2
  have h3 : 0 ≤ el S (nl L k) := by
    cases k with
    | zero => rw [h.first]; exact h0
    | succ k => exact (h.link hk).2.1
  have h4 : el S (nl L k) ≤ el S i := by
    cases k with
    | zero => rw [h.first]; exact Int.le_refl _
    | succ k =>
      have := h.falls (j := 0) (k := k + 1) (by omega) hk
      rw [h.first] at this
      omega
  omega
theorem wrap_pred {n k : Nat} (h : k + 1 = n) (hk : k ≤ 1000) : IntKind.i64.wrap ((n : Int) - 1) = (k : Int) ∧ wrap64 ((n : Int) - 1) = (k : Int) := by
  have e : (n : Int) - 1 = (k : Int) := by omega
  rw [e]
  exact ⟨wrapW (by omega), wrapW' (by omega)⟩
set_option maxRecDepth 100000 in
set_option maxHeartbeats 8000000 in
theorem walkRouteTo (a : Option Addr) (c : Nat) (ds : List Int) (w : World) (hx : Ints .u8 w w.heap.size a ds) (hw : ∀ n ∈ ds, (Lit.int .u8 n).wf = true) (hc : ds.length ≤ c) (hcm : c ≤ maxLen) :
    Calls Try.prog 6 #[.slice a ds.length c] w fun e w' => e = .returned (.bool true) ∧ Below w.heap.size w w' := by
  have hb := isByte_of_wf hw
  clear hw
  by_cases hl : ds.length ≤ 1048576
  · have hl' : ¬ (1048576 : Int) < (ds.length : Int) := by omega
    go_enter Try.func6, Try.ntmps6
    go_wp2_with fail
    refine (drawRouteTo_any a c ds w hx hb hc hcm).mono ?_
    rintro e w1 ⟨at_, ct, R, f, t, rfl, h7, hct, ht, b1⟩
    have H7 := Lib.hid h7
    have T1 := Lib.hid ht
    have B1 := Lib.hid b1
    clear hx hb hc hcm ht b1 hl hl' hct
    have hR7 := h7.2
    clear h7
    obtain ⟨P, hP⟩ : ∃ P, P = rtOr R f t := ⟨_, rfl⟩
    have HP := Lib.hid hP
    have HPl := Lib.hid (show P.length ≤ 1048576 by rw [hP]; exact rtOr_sm R f t)
    clear hP
    go_wp2_with fail
    refine (routeTo_any at_ ct R f t w1 T1.out).mono ?_
    rw [← HP.out]
    rintro e w2 ⟨g2, c2, rfl, hr2, o2, b2⟩
    clear hr2
    have P2 := Lib.hid (own_of_list o2).ints
    have T2 := Lib.hid (T1.out.next b2)
    have B2 := Lib.hid (Below.next B1.out (Nat.le_refl _) b2)
    clear o2 b2 T1 B1
    go_wp2_with fail
    refine (specRouteTo_any at_ ct R f t w2 T2.out (by omega)).mono ?_
    rw [← HP.out]
    rintro e w3 ⟨g3, c3, rfl, hr3, o3, b3⟩
    clear hr3
    have W3 := Lib.hid (own_of_list o3).ints
    have P3 := Lib.hid (P2.out.next b3)
    have T3 := Lib.hid (T2.out.next b3)
    have B3 := Lib.hid (Below.next B2.out (Nat.le_refl _) b3)
    clear o3 b3 P2 T2 B2
    go_wp2_with fail
    refine (sameInts_any g2 g3 c2 c3 w3.heap.size w3.heap.size P P w3 P3.out W3.out HPl.out).mono ?_
    rintro e w4 ⟨rfl, n4, hw4⟩
    have B4 := Lib.hid (show Below w.heap.size w w4 by rw [hw4]; exact below_drewN B3.out n4)
    have P4 := Lib.hid (show Ints .i64 w4 w4.heap.size g2 P by rw [hw4]; exact P3.out.drewN n4)
    have T4 := Lib.hid (show RowsL w4 w4.heap.size at_ R by rw [hw4]; exact T3.out.drewN n4)
    clear B3 P3 T3 W3 hw4
    obtain ⟨S, hS⟩ : ∃ S, S = lsOr R t := ⟨_, rfl⟩
    have HS := Lib.hid hS
    clear hS
    go_wp2_with fail
    refine (leastCosts_any at_ ct R t w4 T4.out).mono ?_
    rw [← HS.out]
    rintro e w5 ⟨g5, c5, rfl, hr5, o5, b5⟩
    clear hr5
    have G5 := Lib.hid (own_of_list o5).ints
    have T5 := Lib.hid (T4.out.next b5)
    have P5 := Lib.hid (P4.out.next b5)
    have B5 := Lib.hid (Below.next B4.out (Nat.le_refl _) b5)
    clear o5 b5 T4 B4 P4
    have HAL := Lib.hid (aliveR2_from B5.out)
    by_cases h0 : S.length = 0
    · have z4 : ((S.length : Int) == 0) = true := by simp [h0]
      have h0' : (S.length : Int) = 0 := by omega
      have hPn : P = [] := by rw [HP.out, rtOr_no fun h => ends_zero (by rw [← HS.out]; exact h0) H7.out.1 h.1]
      subst hPn
      go_wp2_with (go_at_call 18; (with_reducible refine HAL.out.mono ?_); rintro e w5 ⟨rfl, h5⟩)
      go_ret
      exact ⟨rfl, h5⟩
    · have z4 : ((S.length : Int) == 0) = false := by rw [beq_eq_false_iff_ne]; omega
      have h0' : ¬ (S.length : Int) = 0 := by omega
      obtain ⟨tz, rfl, hca⟩ := costsAt_of HS.out h0
      have HCA := Lib.hid hca
      have hl := hca.len
      clear h0 hca
      rw [hl] at z4 h0' ⊢
      by_cases hf0 : f < 0
      · have d0 : decide (f < 0) = true := decide_eq_true hf0
        have hPn : P = [] := by rw [HP.out, rtOr_no fun h => by have := h.1.2.1.1; omega]
        subst hPn
        go_wp2_with (go_at_call 18; (with_reducible refine HAL.out.mono ?_); rintro e w5 ⟨rfl, h5⟩)
        go_ret
        exact ⟨rfl, h5⟩
      · have d0 : decide (f < 0) = false := decide_eq_false hf0
        by_cases hf1 : (R.length : Int) ≤ f
        · have d1 : decide ((R.length : Int) ≤ f) = true := decide_eq_true hf1
          have hPn : P = [] := by rw [HP.out, rtOr_no fun h => by have := h.1.2.1.2; omega]
          subst hPn
          go_wp2_with (go_at_call 18; (with_reducible refine HAL.out.mono ?_); rintro e w5 ⟨rfl, h5⟩)
          go_ret
          exact ⟨rfl, h5⟩
        · have d1 : decide ((R.length : Int) ≤ f) = false := decide_eq_false hf1
          obtain ⟨i, rfl⟩ := Int.eq_ofNat_of_zero_le (by omega : 0 ≤ f)
          have hi : i < R.length := by omega
          have hiI : (i : Int) < (R.length : Int) := by omega
          have d1' : decide (R.length ≤ i) = false := decide_eq_false (by omega)
          obtain ⟨bo, offo, rfl, hbo9, hci⟩ := G5.out.at_ (i := i) (by rw [hl]; exact hi)
          have HI := Lib.hid hi
          by_cases hd : 0 ≤ el S i
          · have hyes : RtYes R (i : Int) (tz : Int) := ⟨endsOk_of HCA.out.ok hi HCA.out.lt, by show 0 ≤ el (lcL R tz) i; rw [← HCA.out.eq]; exact hd⟩
            have hPe : P = rtI (rtL R i tz) := by rw [HP.out, rtOr_yes hyes]
            have HRT := Lib.hid (show RtOk (tg R) (el S) R.length tz i (rtL R i tz) by rw [HCA.out.eq]; exact rtL_ok HCA.out.lt hi (by rw [← HCA.out.eq]; exact hd))
            obtain ⟨L, hL⟩ : ∃ L, L = rtL R i tz := ⟨_, rfl⟩
            rw [← hL] at hPe HRT
            have hPlen : P.length = L.length := by rw [hPe, rtI_len]
            have HPC : Hid (∀ k, k < L.length → ∃ bp offp, g2 = some ⟨bp, offp, none⟩ ∧ w5.cell? ⟨bp, offp + k, none⟩ = some (.int .i64 (nl L k : Int))) := fun k hk => by
              obtain ⟨bp, offp, e, _, h⟩ := P5.out.at_ (i := k) (by rw [hPlen]; exact hk)
              rw [hPe, rtI_el hk] at h
              exact ⟨bp, offp, e, h⟩
            have HTOT := Lib.hid (HRT.out.total HCA.out.is HCA.out.lt)
            have HIN := Lib.hid (fun k (hk : k < L.length) => rtC_in HCA.out HRT.out hd hi hk)
            have hLp := HRT.out.pos
            obtain ⟨bp, offp, rfl, hcp0⟩ := HPC.out 0 hLp
            rw [HRT.out.first, Nat.add_zero] at hcp0
            have hLl := HRT.out.len
            have hL0 : ((L.length : Int) == 0) = false := by rw [beq_eq_false_iff_ne]; omega
            have hL0' : ¬ (L.length : Int) = 0 := by omega
            rw [hPlen]
            have HCI := Lib.hid hci
            have HC0 := Lib.hid hcp0
            clear hPe hPlen hL hyes hd hi hci hcp0 P5 hbo9 hf0 hf1 hl
            go_wp2
            go_loopw [8, 9] (fun s x wr => ∃ k q : Nat, k < L.length ∧ x = .int .i64 (k : Int) ∧ s = .int .i64 (rtC (tg R) L k) ∧ wr = w5.drewN q) (fun _ x _ => L.length - (intOf x).toNat)
            case atStart => exact ⟨0, 0, hLp, rfl, rfl, rfl⟩
            case round =>
              obtain ⟨k, q, hk, rfl, rfl, rfl⟩ := hrel
              have hk9 : k ≤ 1000 := by omega
              have hkI0 : (k : Int) < (L.length : Int) := by omega
              have hLI : (0 : Int) < (L.length : Int) := by omega
              by_cases hk1 : k + 1 < L.length
              · have hkI : (k : Int) + 1 < (L.length : Int) := by omega
                have rk := wrapW (n := (k : Int) + 1) (by omega)
                have rk' := wrapW' (n := (k : Int) + 1) (by omega)
                obtain ⟨bp1, offp1, e1, hck⟩ := HPC.out k hk
                injection e1 with e1
                injection e1 with e1 e1' _
                subst e1 e1'
                obtain ⟨bp2, offp2, e2, hck1⟩ := HPC.out (k + 1) hk1
                injection e2 with e2
                injection e2 with e2 e2' _
                subst e2 e2'
                have hlt1 := HRT.out.lt k hk
                have hlt2 := HRT.out.lt (k + 1) hk1
                have hin1 := HIN.out k hk
                have hin2 := HIN.out (k + 1) hk1
                have hstep : rtC (tg R) L (k + 1) = rtC (tg R) L k + tg R (nl L k) (nl L (k + 1)) := rfl
                obtain ⟨b1, off1, ad1, cp1, b2, off2, rfl, hrow, rfl, hg⟩ := tbl_cells T5.out HCA.out.ok hlt1 hlt2
                obtain ⟨x1, hx1⟩ : ∃ x1, x1 = nl L k := ⟨_, rfl⟩
                obtain ⟨x2, hx2⟩ : ∃ x2, x2 = nl L (k + 1) := ⟨_, rfl⟩
                have HX1 := Lib.hid hx1
                obtain ⟨G, hG⟩ : ∃ G, G = tg R x1 x2 := ⟨_, rfl⟩
                rw [← hx1, ← hx2, ← hG] at hstep hg
                rw [← hx1] at hck hrow hlt1
                rw [← hx2] at hck1 hlt2
                have HST := Lib.hid hstep
                obtain ⟨s1, hs1⟩ : ∃ s1, s1 = rtC (tg R) L k := ⟨_, rfl⟩
                rw [← hs1] at hstep ⊢ hin1
                rw [hstep] at hin2
                have HS1 := Lib.hid hs1
                have r1 := wrapW (n := s1 + G) (by omega)
                have r1' := wrapW' (n := s1 + G) (by omega)
                have hx1I : (x1 : Int) < (R.length : Int) := by omega
                have hx2I : (x2 : Int) < (R.length : Int) := by omega
                have hck1' : w5.cell? ⟨bp, offp + (k + 1), none⟩ = some (.int .i64 (x2 : Int)) := hck1
                have HK1 := Lib.hid hk1
                have HKc := Lib.hid hck
                clear hx1 hx2 hG hstep hs1 hin1 hin2 hlt1 hlt2
                go_wp2
                go_quiet (fail)
                go_wp2
                clear r1 r1' hrow hg hck1 hck1'
                go_loopw [10] (fun x wr => ∃ j q2 : Nat, j ≤ k ∧ x = .int .i64 (j : Int) ∧ wr = w5.drewN q2) (fun x _ => k - (intOf x).toNat)
                case atStart => exact ⟨0, _, Nat.zero_le _, rfl, World.drewN_drewN _ _ _⟩
                case round =>
                  obtain ⟨j, q2, hj, rfl, rfl⟩ := hrel
                  by_cases hjk : j < k
                  · obtain ⟨bp3, offp3, e3, hcj⟩ := HPC.out j (by omega)
                    injection e3 with e3
                    injection e3 with e3 e3' _
                    subst e3 e3'
                    have hdf := HRT.out.differ hjk hk
                    rw [← HX1.out] at hdf
                    obtain ⟨x3, hx3⟩ : ∃ x3, x3 = nl L j := ⟨_, rfl⟩
                    rw [← hx3] at hcj hdf
                    have hjkI : (j : Int) < (k : Int) := by omega
                    have hjL : (j : Int) < (L.length : Int) := by omega
                    have z8 : ((x3 : Int) == (x1 : Int)) = false := by simp; omega
                    clear hx3 hdf
                    go_wp2
                    go_quiet (fail)
                    go_wp2
                    go_roundw
                    case rel => exact ⟨j + 1, _, by omega, by go_num, rfl⟩
                    case measure => simp [intOf]; omega
                  · obtain rfl : k = j := by omega
                    go_wp2
                    go_roundw
                    case rel => exact ⟨k + 1, q2, HK1.out, by go_num, by rw [HST.out, HS1.out], rfl⟩
                    case measure => have := HK1.out; simp [intOf]; omega
              · have hke : k + 1 = L.length := by omega
                have hkI : ¬ (k : Int) + 1 < (L.length : Int) := by omega
                have rk := wrapW (n := (k : Int) + 1) (by omega)
                have rk' := wrapW' (n := (k : Int) + 1) (by omega)
                obtain ⟨rl, rl'⟩ := wrap_pred hke hk9
                have hsum : rtC (tg R) L k = el S i := by
                  have := HTOT.out
                  rw [show L.length - 1 = k from by rw [← hke]; rfl] at this
                  exact this
                obtain ⟨bp1, offp1, e1, hck⟩ := HPC.out k hk
                injection e1 with e1
                injection e1 with e1 e1' _
                subst e1 e1'
                have hlast : nl L k = tz := by
                  have := HRT.out.last
                  rw [show L.length - 1 = k from by rw [← hke]; rfl] at this
                  exact this
                rw [hlast] at hck
                rw [hsum]
                have hci := HCI.out
                have hc0 := HC0.out
                generalize el S i = di at *
                have z9 : (di == di) = true := by simp
                have z10 : ((i : Int) == (i : Int)) = true := by simp
                have z11 : ((tz : Int) == (tz : Int)) = true := by simp
                go_wp2
                go_ret
                exact ⟨rfl, below_drewN B5.out q⟩
          · have hPn : P = [] := by rw [HP.out, rtOr_no fun h => hd (by have h9 : 0 ≤ el (lcL R tz) i := h.2; rw [← HCA.out.eq] at h9; exact h9)]
            have hneg : el S i < 0 := by omega
            generalize el S i = di at *
            subst hPn
            have zz : (([] : List Int).length : Int) = 0 := rfl
            have hn1 : 1 ≤ R.length := H7.out.1
            go_wp2
            go_ret
            exact ⟨rfl, B5.out⟩
  · have hl' : (1048576 : Int) < (ds.length : Int) := by omega
    go_enter Try.func6, Try.ntmps6
    go_wp2
    go_ret
    exact ⟨rfl, Below.refl _ _⟩
end Go.Proofs.Ytnmhiagnmfpipaa
