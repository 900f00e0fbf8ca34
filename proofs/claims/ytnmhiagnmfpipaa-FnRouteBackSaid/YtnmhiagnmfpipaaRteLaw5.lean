/-
  The law of routes back, walked: it returns true for every list of bytes. Condition: bytes that can be read.
-/
import Derived.Test.YtnmhiagnmfpipaaRteLaw2
import Derived.StillTail
import Derived.StillTailTactics
import Derived.Deep.RegionLaw
namespace Go.Proofs.Ytnmhiagnmfpipaa
open Go.RowKit

/-- Links of equal cost in both directions. -/
def mxR (R : List (List Int)) (i j : Nat) : Int := if tg R j i > tg R i j then tg R j i else tg R i j
def evR (R : List (List Int)) (i k : Nat) : List Int := (List.range k).map (mxR R i)
def evL (R : List (List Int)) (k : Nat) : List (List Int) := (List.range k).map fun i => evR R i R.length
theorem evR_len (R : List (List Int)) (i k : Nat) : (evR R i k).length = k := by simp [evR]
theorem evR_next (R : List (List Int)) (i k : Nat) : evR R i (k + 1) = evR R i k ++ [mxR R i k] := by unfold evR; rw [List.range_succ, List.map_append]; rfl
theorem evL_len (R : List (List Int)) (k : Nat) : (evL R k).length = k := by simp [evL]
theorem evL_next (R : List (List Int)) (k : Nat) : evL R (k + 1) = evL R k ++ [evR R k R.length] := by unfold evL; rw [List.range_succ, List.map_append]; rfl
theorem evL_row {R : List (List Int)} {i k : Nat} (h : i < k) : rwI (evL R k) i = evR R i R.length := by simp [evL, rwI, h]
theorem evL_tg {R : List (List Int)} {i j : Nat} (hi : i < R.length) (hj : j < R.length) : tg (evL R R.length) i j = mxR R i j := by
  unfold tg
  rw [evL_row hi]
  simp [evR, el, hj]
theorem mxR_swap (R : List (List Int)) (i j : Nat) : mxR R i j = mxR R j i := by
  unfold mxR
  split <;> split <;> omega
theorem mxR_in {R : List (List Int)} (h : TiOk R) {i j : Nat} (hi : i < R.length) (hj : j < R.length) : 0 ≤ mxR R i j ∧ mxR R i j ≤ 100 := by
  have h1 := tiOk_in h hi hj
  have h2 := tiOk_in h hj hi
  unfold mxR
  split <;> omega
theorem evL_ok {R : List (List Int)} (h : TiOk R) : TiOk (evL R R.length) := by
  refine ⟨by rw [evL_len]; exact h.1, fun k hk => ?_⟩
  rw [evL_len] at hk ⊢
  rw [evL_row hk]
  refine ⟨evR_len _ _ _, fun j hj => ?_, ?_⟩
  · have e : el (evR R k R.length) j = mxR R k j := by simp [evR, el, hj]
    rw [e]; exact mxR_in h hk hj
  · have e : el (evR R k R.length) k = mxR R k k := by simp [evR, el, hk]
    rw [e]
    have h1 := tiOk_self h hk
    unfold mxR
    rw [h1]; rfl
theorem evL_back {R : List (List Int)} {i to : Nat} (hi : i < R.length) (hto : to < R.length) : el (lcL (evL R R.length) i) to = el (lcL (evL R R.length) to) i := by
  have h1 := lcL_is (evL R R.length) to
  have h2 := lcL_is (evL R R.length) i
  rw [evL_len] at h1 h2
  exact IsD.back (fun a b ha hb => by rw [evL_tg ha hb, evL_tg hb ha, mxR_swap]) hto hi h1 h2
set_option maxRecDepth 100000 in
set_option maxHeartbeats 8000000 in
theorem walkRouteBack (a : Option Addr) (c : Nat) (ds : List Int) (w : World) (hx : Ints .u8 w w.heap.size a ds) (hw : ∀ n ∈ ds, (Lit.int .u8 n).wf = true) (hc : ds.length ≤ c) (hcm : c ≤ maxLen) :
    Calls Try.prog 9 #[.slice a ds.length c] w fun e w' => e = .returned (.bool true) ∧ Below w.heap.size w w' := by
  have hb := isByte_of_wf hw
  clear hw
  by_cases hl : ds.length ≤ 1048576
  · have hl' : ¬ (1048576 : Int) < (ds.length : Int) := by omega
    go_enter Try.func9, Try.ntmps9
    go_wp2_with fail
    refine (drawLeastCosts_any a c ds w hx hb hc hcm).mono ?_
    rintro e w1 ⟨at_, ct, R, t, rfl, h7, hct, ht, b1⟩
    have H7 := Lib.hid h7
    have T1 := Lib.hid ht
    have B1 := Lib.hid b1
    clear hx hb hc hcm ht b1 hl hl' hct
    have hR7 := h7.2
    clear h7
    obtain ⟨S, hS⟩ : ∃ S, S = lsOr R t := ⟨_, rfl⟩
    have HS := Lib.hid hS
    have HSl : Hid (S.length ≤ 1048576) := by
      show S.length ≤ 1048576
      by_cases h : S.length = 0
      · omega
      · obtain ⟨to, _, hc⟩ := costsAt_of hS h
        have := hc.len
        omega
    clear hS
    go_wp2_with fail
    refine (leastCosts_any at_ ct R t w1 T1.out).mono ?_
    rw [← HS.out]
    rintro e w2 ⟨g2, c2, rfl, hr2, o2, b2⟩
    have G2 := Lib.hid (own_of_list o2).ints
    have T2 := Lib.hid (T1.out.next b2)
    have B2 := Lib.hid (Below.next B1.out (Nat.le_refl _) b2)
    clear o2 b2 T1 B1 hr2
    go_wp2_with fail
    refine (specLeastCosts_any at_ ct R t w2 T2.out (by omega)).mono ?_
    rw [← HS.out]
    rintro e w3 ⟨g3, c3, rfl, hr3, o3, b3⟩
    have W3 := Lib.hid (own_of_list o3).ints
    have G3 := Lib.hid (G2.out.next b3)
    have T3 := Lib.hid (T2.out.next b3)
    have B3 := Lib.hid (Below.next B2.out (Nat.le_refl _) b3)
    clear o3 b3 G2 T2 B2 hr3
    go_wp2_with fail
    refine (sameInts_any g2 g3 c2 c3 w3.heap.size w3.heap.size S S w3 G3.out W3.out HSl.out).mono ?_
    rintro e w4 ⟨rfl, n4, hw4⟩
    have B4 := Lib.hid (show Below w.heap.size w w4 by rw [hw4]; exact below_drewN B3.out n4)
    have T4 := Lib.hid (show RowsL w4 w4.heap.size at_ R by rw [hw4]; exact T3.out.drewN n4)
    clear B3 G3 T3 W3 hw4
    have HAL := Lib.hid (aliveR2_from B4.out)
    by_cases h0 : S.length = 0
    · have z4 : ((S.length : Int) == 0) = true := by simp [h0]
      have h0' : (S.length : Int) = 0 := by omega
      go_wp2_with (go_at_call 18; (with_reducible refine HAL.out.mono ?_); rintro e w5 ⟨rfl, h5⟩)
      go_ret
      exact ⟨rfl, h5⟩
    · have z4 : ((S.length : Int) == 0) = false := by rw [beq_eq_false_iff_ne]; omega
      have h0' : ¬ (S.length : Int) = 0 := by omega
      obtain ⟨tz, rfl, hca⟩ := costsAt_of HS.out h0
      have hl := hca.len
      have HOK := Lib.hid hca.ok
      have HTZ := Lib.hid hca.lt
      clear h0 hca
      rw [hl] at z4 h0' ⊢
      obtain ⟨n, hn⟩ : ∃ n, n = R.length := ⟨_, rfl⟩
      have HN := Lib.hid hn
      rw [← hn] at z4 h0' hR7 ⊢
      have HCT : Hid (∀ (W : World), RowsL W w4.heap.size at_ R → ∀ i j, i < n → j < n → ∃ b off ad cp b' off', at_ = some ⟨b, off, none⟩ ∧ W.cell? ⟨b, off + i, none⟩ = some (.slice ad n cp) ∧ ad = some ⟨b', off', none⟩ ∧ W.cell? ⟨b', off' + j, none⟩ = some (.int .i64 (tg R i j))) := fun W h i j hi hj => by
        have h1 := tbl_cells h HOK.out (i := i) (j := j) (by rw [← HN.out]; exact hi) (by rw [← HN.out]; exact hj)
        rw [← HN.out] at h1
        exact h1
      have TW0 := Lib.hid (TW.lit0 w4 w4.heap.size (Nat.le_refl _))
      have BW0 := Lib.hid (alloc_belowX w4 (.cells #[] 27))
      clear hl HAL HS HSl hn
      go_wp2
      go_loopw [6, 7] (fun o x wr => ∃ (k cap : Nat) (a' : Option Addr) (blk : Nat → Nat) (vs : List Value), k ≤ n ∧ x = .int .i64 (k : Int) ∧ o = .slice a' k cap ∧ TW wr w4.heap.size a' cap (evL R k) blk vs ∧ Below w4.heap.size w4 wr) (fun _ x _ => n - (intOf x).toNat)
      case atStart => exact ⟨0, 0, _, _, _, Nat.zero_le _, rfl, rfl, TW0.out, BW0.out⟩
      case round =>
        obtain ⟨k, cap, a', blk, vs, hk, rfl, rfl, htw, hbl⟩ := hrel
        have HT := Lib.hid htw
        have HBL := Lib.hid hbl
        clear htw hbl TW0 BW0
        by_cases hlt : k < n
        · have hltI : (k : Int) < (n : Int) := by omega
          have HLT := Lib.hid hlt
          have HR0 := Lib.hid (Grow.lit0 .i64 3 wr wr.heap.size (Nat.le_refl _))
          have HB0 := Lib.hid (alloc_belowX wr (.cells #[] 3))
          obtain ⟨wk, rfl⟩ : ∃ wk, wk = wr := ⟨wr, rfl⟩
          go_wp2
          go_loopw [8, 9] (fun r x wi => ∃ (m c9 : Nat) (a9 : Option Addr), m ≤ n ∧ x = .int .i64 (m : Int) ∧ r = .slice a9 m c9 ∧ Grow .i64 3 wi wk.heap.size a9 m c9 (evR R k m) ∧ Below wk.heap.size wk wi) (fun _ x _ => n - (intOf x).toNat)
          case atStart => exact ⟨0, 0, _, Nat.zero_le _, rfl, rfl, HR0.out, HB0.out⟩
          case round =>
            obtain ⟨m, c9, a9, hm, rfl, rfl, hg, hb⟩ := hrel
            have HG := Lib.hid hg
            have HB := Lib.hid hb
            clear hg hb HR0 HB0
            by_cases hlm : m < n
            · have hlmI : (m : Int) < (n : Int) := by omega
              have HLM := Lib.hid hlm
              have hTr := T4.out.below (HBL.out.trans (HB.out.mono HBL.out.size))
              obtain ⟨b1, off1, ad1, cp1, b2, off2, rfl, hrow1, rfl, hg1⟩ := HCT.out wr hTr k m HLT.out hlm
              obtain ⟨b3, off3, ad3, cp3, b4, off4, e3, hrow2, rfl, hg2⟩ := HCT.out wr hTr m k hlm HLT.out
              injection e3 with e3
              injection e3 with e3 e4 _
              subst e3 e4
              have HM : Hid (mxR R k m = if tg R m k > tg R k m then tg R m k else tg R k m) := rfl
              obtain ⟨x1, hx1⟩ : ∃ x1, x1 = tg R k m := ⟨_, rfl⟩
              obtain ⟨x2, hx2⟩ : ∃ x2, x2 = tg R m k := ⟨_, rfl⟩
              rw [← hx1, ← hx2] at HM
              rw [← hx1] at hg1
              rw [← hx2] at hg2
              have HEV := Lib.hid (evR_next R k m)
              obtain ⟨v, hv⟩ : ∃ v, v = mxR R k m := ⟨_, rfl⟩
              rw [← hv] at HM HEV
              have hmx : (if x2 > x1 then x2 else x1) = v := HM.out.symm
              clear hTr hlm hx1 hx2 hv
              have HGd : Hid (Grow .i64 3 wr.drew wk.heap.size a9 m c9 (evR R k m)) := HG.out.drewN 1
              have HBd : Hid (Below wk.heap.size wk wr.drew) := below_drewN HB.out 1
              have HG3 := Lib.hid (HGd.out.alloc (.cells #[.int .i64 v] 3))
              have HB3 := Lib.hid (HBd.out.alloc HBd.out.size (.cells #[.int .i64 v] 3))
              have HC3 := Lib.hid (cell_of_row _ _ 0 _ _ _ (heap_alloc_last wr.drew (.cells #[.int .i64 v] 3)))
              have HS3 := Lib.hid (Nat.le_trans HBd.out.size (alloc_belowX wr.drew (.cells #[.int .i64 v] 3)).size)
              go_wp2
              go_region_law (refine step_append1 (.tmp 47) (.tmp 63) wk.heap.size a9 m c9 (evR R k m) ⟨wr.drew.heap.size, 0, none⟩ v rfl rfl rfl rfl HG3.out HC3.out (by omega) HS3.out ?_; intro a4 cap4 w5 hg4 hb4; have HG4 := Lib.hid hg4; have HB5 := Lib.hid (HB3.out.trans hb4); clear hg4 hb4)
              all_goals
                go_wp2
                go_roundw
                case rel => exact ⟨m + 1, cap4, a4, HLM.out, by go_num, rfl, by rw [HEV.out]; exact HG4.out, HB5.out⟩
                case measure => have := HLM.out; simp [intOf]; omega
            · obtain rfl : n = m := by omega
              obtain ⟨b9, f9, rfl, hb9, hb9l, _, _, _⟩ := HG.out.row (by omega)
              have T9 := Lib.hid ((HT.out.next HB.out).next (alloc_belowX wr (.cells #[.slice (some ⟨b9, 0, none⟩) n c9] 27)))
              have HX9 := Lib.hid ((HG.out.base_le HBL.out.size).alloc (.cells #[.slice (some ⟨b9, 0, none⟩) n c9] 27))
              have HC9 := Lib.hid (cell_of_row _ _ 0 _ _ _ (heap_alloc_last wr (.cells #[.slice (some ⟨b9, 0, none⟩) n c9] 27)))
              have HS9 := Lib.hid (Nat.le_trans (Nat.le_trans HBL.out.size HB.out.size) (alloc_belowX wr (.cells #[.slice (some ⟨b9, 0, none⟩) n c9] 27)).size)
              have HL9 := Lib.hid (And.intro hb9 (show b9 < (wr.alloc (.cells #[.slice (some ⟨b9, 0, none⟩) n c9] 27)).heap.size by simp; omega))
              have HB9 := Lib.hid ((HBL.out.trans (HB.out.mono HBL.out.size)).alloc (Nat.le_trans HBL.out.size HB.out.size) (.cells #[.slice (some ⟨b9, 0, none⟩) n c9] 27))
              have hgr := T9.out.gr
              rw [evL_len] at hgr
              have HGR := Lib.hid hgr
              clear hgr hb9 hb9l
              go_wp2_with (at_builtin; refine wpList_appendV (.tmp 65) (.tmp 67) w4.heap.size a' k cap vs ⟨wr.heap.size, 0, none⟩ (some ⟨b9, 0, none⟩) n c9 rfl rfl rfl rfl HGR.out HC9.out (by omega) HS9.out ?_; intro a7 cap7 w7 hg7 hgb7; have HG7 := Lib.hid hg7; have HGB7 := Lib.hid hgb7; clear hg7 hgb7)
              have T7 := Lib.hid (T9.out.app HX9.out (fun i hi => Nat.lt_of_lt_of_le (HT.out.lt i hi) HL9.out.1) HL9.out.2 (by rw [evL_len]; exact HG7.out) (by rw [evL_len]; exact HGB7.out))
              have HB7 := Lib.hid (HB9.out.trans (HGR.out.keepsBelow HGB7.out HS9.out))
              have e9 : evL R (k + 1) = evL R k ++ [evR R k n] := by rw [evL_next, HN.out]
              rw [← e9] at T7
              clear e9
              go_roundw
              case rel => exact ⟨k + 1, cap7, a7, _, _, HLT.out, by go_num, rfl, T7.out, HB7.out⟩
              case measure => have := HLT.out; simp [intOf]; omega
        · obtain rfl : n = k := by omega
          have hrm := HT.out.room
          have hEe : evL R n = evL R R.length := by rw [HN.out]
          obtain ⟨E, hE⟩ : ∃ E, E = evL R R.length := ⟨_, rfl⟩
          have hEl : E.length = n := by rw [hE, evL_len, HN.out]
          have HE := Lib.hid (show RowsL wr wr.heap.size a' E by rw [hE, ← hEe]; exact HT.out.tbl)
          have HEOK := Lib.hid (show TiOk E by rw [hE]; exact evL_ok HOK.out)
          have HBK : Hid (∀ i, i < n → el (lcL E i) tz = el (lcL E tz) i) := fun i hi => by
            rw [hE]; exact evL_back (by rw [← HN.out]; exact hi) HTZ.out
          have htzn : tz < n := by rw [HN.out]; exact HTZ.out
          have HLE := Lib.hid (fun (W : World) (i : Nat) (hi : i < n) (h : RowsL W W.heap.size a' E) => by have h1 := leastCosts_any a' cap E (i : Int) W h; rw [lsOr_yes HEOK.out (by rw [hEl]; exact hi), hEl] at h1; exact h1)
          have HLL := Lib.hid (fun i => show (lcL E i).length = n by rw [lcL_len, hEl])
          have HB4 := Lib.hid (Below.next B4.out (Nat.le_refl _) HBL.out)
          clear hrm hEe hE hEl hlt hk HT HBL T4 B4 HCT
          go_wp2_with fail
          refine (HLE.out wr tz htzn HE.out).mono ?_
          rintro e w5 ⟨g5, c5, rfl, hr5, o5, b5⟩
          rw [HLL.out tz]
          have G5 := Lib.hid (own_of_list o5).ints
          have E5 := Lib.hid (HE.out.next b5)
          have B5 := Lib.hid (Below.next HB4.out (Nat.le_refl _) b5)
          clear hr5 o5 b5 HE HB4
          have htzI : (tz : Int) < (n : Int) := by omega
          go_wp2
          go_loopw [11] (fun x wr => ∃ i : Nat, i ≤ n ∧ x = .int .i64 (i : Int) ∧ Below w5.heap.size w5 wr) (fun x _ => n - (intOf x).toNat)
          case atStart => exact ⟨0, Nat.zero_le _, rfl, Below.refl _ _⟩
          case round =>
            obtain ⟨i, hi, rfl, hb⟩ := hrel
            have HB := Lib.hid hb
            clear hb
            by_cases hlt : i < n
            · have hltI : (i : Int) < (n : Int) := by omega
              have HLT := Lib.hid hlt
              have HBd : Hid (Below w5.heap.size w5 wr.drew) := below_drewN HB.out 1
              have HLi := Lib.hid (HLE.out wr.drew i hlt ((E5.out.below HBd.out).more HBd.out.size))
              obtain ⟨bt, ot, rfl, _, hct⟩ := (G5.out.below HBd.out).at_ (i := i) (by rw [HLL.out]; exact hlt)
              have hbk := HBK.out i hlt
              obtain ⟨z, hz⟩ : ∃ z, z = el (lcL E tz) i := ⟨_, rfl⟩
              rw [← hz] at hct hbk
              have HBKz := Lib.hid hbk
              have HTZn := Lib.hid htzn
              have zz : (z != z) = false := by simp
              clear hz hbk hlt htzn
              go_wp2
              go_region_law (first
                | (go_simp; go_at_call 20; refine HLi.out.mono ?_; rintro e w6 ⟨g6, c6, rfl, hr6, o6, b6⟩; rw [HLL.out i]; obtain ⟨b8, o8, rfl, _, hc8⟩ := (own_of_list o6).ints.at_ (i := tz) (by rw [HLL.out]; exact HTZn.out); rw [HBKz.out] at hc8; have hct6 := cell_next (W := wr.drew) hct b6; have B6 := Lib.hid (Below.next HBd.out (Nat.le_refl _) b6); clear hr6 o6 b6))
              all_goals
                go_wp2
                go_roundw
                case rel => exact ⟨i + 1, HLT.out, by go_num, B6.out⟩
                case measure => have := HLT.out; simp [intOf]; omega
            · obtain rfl : n = i := by omega
              go_wp2
              go_ret
              exact ⟨rfl, B5.out.trans (HB.out.mono B5.out.size)⟩
  · have hl' : (1048576 : Int) < (ds.length : Int) := by omega
    go_enter Try.func9, Try.ntmps9
    go_wp2
    go_ret
    exact ⟨rfl, Below.refl _ _⟩
end Go.Proofs.Ytnmhiagnmfpipaa
