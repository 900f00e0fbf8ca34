/-
  The law of routes and slots, walked: it returns true for every list of bytes. Condition: bytes that can be read.
-/
import Derived.Test.YtnmhiagnmfpipaaRteLaw3
import Derived.Test.YtnmhiagnmfpipaaSk4
import Derived.Test.YtnmhiagnmfpipaaSkRows
namespace Go.Proofs.Ytnmhiagnmfpipaa
open Go.RowKit

/-- Conflicts: all links in either direction. -/
def cnB (R : List (List Int)) (i j : Nat) : Bool := decide (0 < tg R i j) || decide (0 < tg R j i)
def cnR (R : List (List Int)) (i k : Nat) : List Bool := (List.range k).map (cnB R i)
def cnL (R : List (List Int)) (k : Nat) : List (List Bool) := (List.range k).map fun i => cnR R i R.length
theorem cnR_len (R : List (List Int)) (i k : Nat) : (cnR R i k).length = k := by simp [cnR]
theorem cnR_next (R : List (List Int)) (i k : Nat) : cnR R i (k + 1) = cnR R i k ++ [cnB R i k] := by unfold cnR; rw [List.range_succ, List.map_append]; rfl
theorem cnL_len (R : List (List Int)) (k : Nat) : (cnL R k).length = k := by simp [cnL]
theorem cnL_next (R : List (List Int)) (k : Nat) : cnL R (k + 1) = cnL R k ++ [cnR R k R.length] := by unfold cnL; rw [List.range_succ, List.map_append]; rfl
theorem cnL_row {R : List (List Int)} {i k : Nat} (h : i < k) : rwB (cnL R k) i = cnR R i R.length := by simp [cnL, rwB, h]
theorem cnL_cf {R : List (List Int)} {i j : Nat} (hi : i < R.length) (hj : j < R.length) : cf (cnL R R.length) i j = cnB R i j := by
  unfold cf
  rw [cnL_row hi]
  simp [cnR, bt, hj]
theorem cnB_swap (R : List (List Int)) (i j : Nat) : cnB R i j = cnB R j i := Bool.or_comm _ _
theorem cnL_ok {R : List (List Int)} (h : TiOk R) : TbOk (cnL R R.length) := by
  refine ⟨by rw [cnL_len]; exact h.1, fun i hi => ?_, fun i hi => ?_⟩
  · rw [cnL_len] at hi ⊢
    rw [cnL_row hi, cnR_len]
  · rw [cnL_len] at hi
    refine ⟨?_, fun j hj => ?_⟩
    · rw [cnL_cf hi hi]
      unfold cnB
      rw [tiOk_self h hi]; rfl
    · rw [cnL_cf hi (by omega), cnL_cf (by omega) hi, cnB_swap]
/-- Greedy slots are valid. -/
theorem sv_of_proper2 {R : List (List Bool)} {L : List Nat} (hO : TbOk R) (hp : Proper (cf R) L) (hl : L.length = R.length) (hb : Below' 10 L) : svB R (iL L) = true := by
  refine svB_yes ⟨hO, by rw [iL_len, hl], fun i hi => ?_⟩
  rw [iL_len] at hi
  refine ⟨?_, fun j hj hg => ?_⟩
  · have := hb i hi
    rw [iL_el]; omega
  · have := hp i hi j hj hg
    rw [iL_el, iL_el]; omega
theorem cn_sv {R : List (List Int)} (h : TiOk R) : svB (cnL R R.length) (grL (cnL R R.length)) = true := by
  have hO := cnL_ok h
  rw [grL_yes (tbB_yes hO)]
  refine sv_of_proper2 hO (gr_proper _ _) (gr_len _ _) fun i hi => ?_
  have h1 := gr_below (cf (cnL R R.length)) (cnL R R.length).length i hi
  have := hO.1
  omega
theorem cn_len {R : List (List Int)} (h : TiOk R) : (grL (cnL R R.length)).length = R.length := by
  rw [grL_yes (tbB_yes (cnL_ok h)), iL_len, gr_len, cnL_len]
theorem cn_slot {R : List (List Int)} (h : TiOk R) {i : Nat} : el (grL (cnL R R.length)) i = (nl (gr (cf (cnL R R.length)) R.length) i : Int) := by
  rw [grL_yes (tbB_yes (cnL_ok h)), iL_el, cnL_len]
theorem cn_differ {R : List (List Int)} (h : TiOk R) {i j : Nat} (hi : i < R.length) (hj : j < R.length) (hg : 0 < tg R i j) : el (grL (cnL R R.length)) i ≠ el (grL (cnL R R.length)) j := by
  have hne : i ≠ j := fun e => by
    subst e
    rw [tiOk_self h hi] at hg; omega
  have hcf : cnB R i j = true := by unfold cnB; simp [hg]
  have hp := gr_proper (cf (cnL R R.length)) R.length
  rw [cn_slot h, cn_slot h]
  rcases Nat.lt_or_gt_of_ne hne with h1 | h1
  · have := hp j (by rw [gr_len]; exact hj) i h1 (by rw [cnL_cf hj hi, cnB_swap]; exact hcf)
    omega
  · have := hp i (by rw [gr_len]; exact hi) j h1 (by rw [cnL_cf hi hj]; exact hcf)
    omega
theorem rwB_app (R : List (List Bool)) (xs : List Bool) (i : Nat) : rwB (R ++ [xs]) i = if i = R.length then xs else rwB R i := by
  unfold rwB
  by_cases e : i = R.length
  · subst e; simp
  · rw [if_neg e]
    rcases Nat.lt_or_ge i R.length with h | h
    · rw [List.getD_eq_getElem?_getD, List.getD_eq_getElem?_getD, List.getElem?_append_left h]
    · rw [List.getD_eq_getElem?_getD, List.getD_eq_getElem?_getD, List.getElem?_eq_none (by simp; omega), List.getElem?_eq_none h]
/-- A table of Booleans that grows, in blocks from A on. -/
structure TVb (W : World) (A : Nat) (a : Option Addr) (cap : Nat) (R : List (List Bool)) (vs : List Value) : Prop where
  gr : GVb W A a R.length cap vs
  rows : ∀ i, i < R.length → ∃ b cp f, vs[i]? = some (.slice (some ⟨b, 0, none⟩) (rwB R i).length cp) ∧ ((rwB R i).length ≤ cp ∧ cp ≤ maxLen) ∧ W.rowIs b 4 cp f ∧ ∀ j, j < (rwB R i).length → f j = .bool (bt (rwB R i) j)
section
variable {W W' : World} {A cap : Nat} {a : Option Addr} {R : List (List Bool)} {vs : List Value}
theorem TVb.lit0 (w : World) (A : Nat) (hA : A ≤ w.heap.size) : TVb (w.alloc (.cells #[] 39)) A (some ⟨w.heap.size, 0, none⟩) 0 [] [] := ⟨GVb.lit0 w A hA, fun _ hi => absurd hi (Nat.not_lt_zero _)⟩
theorem TVb.next (h : TVb W A a cap R vs) (hb : Below W.heap.size W W') : TVb W' A a cap R vs :=
  ⟨h.gr.next hb, fun i hi => by
    obtain ⟨b, cp, f, h1, h2, h3, h4⟩ := h.rows i hi
    exact ⟨b, cp, f, h1, h2, h3.of_block (hb.block _ h3.lt), h4⟩⟩
set_option maxRecDepth 10000 in
theorem TVb.app {a' : Option Addr} {cap' b n9 cp : Nat} {f : Nat → Value} {xs : List Bool} (h : TVb W A a cap R vs) (hn : n9 = xs.length) (hc : n9 ≤ cp ∧ cp ≤ maxLen) (hf : W.rowIs b 4 cp f) (hfe : ∀ j, j < n9 → f j = .bool (bt xs j))
    (h1 : GVb W' A a' (R.length + 1) cap' (vs ++ [.slice (some ⟨b, 0, none⟩) n9 cp])) (h2 : W.grownBy W' (Value.ownBlock (.slice a R.length cap))) : TVb W' A a' cap' (R ++ [xs]) (vs ++ [.slice (some ⟨b, 0, none⟩) n9 cp]) := by
  subst hn
  have hl := h.gr.len
  have keep : ∀ (b cp : Nat) (f : Nat → Value), W.rowIs b 4 cp f → W'.rowIs b 4 cp f := fun b cp f hr => by
    obtain ⟨c, hc, _⟩ := id hr
    exact hr.of_block (h.gr.leaves h2 hc (by decide))
  refine ⟨by rw [List.length_append]; exact h1, fun i hi => ?_⟩
  rw [List.length_append, List.length_singleton] at hi
  rw [rwB_app]
  by_cases e : i = R.length
  · subst e
    rw [if_pos rfl]
    exact ⟨b, cp, f, by simp [hl], hc, keep _ _ _ hf, hfe⟩
  · rw [if_neg e]
    obtain ⟨b', cp', f', k1, k2, k3, k4⟩ := h.rows i (by omega)
    exact ⟨b', cp', f', by rw [List.getElem?_append_left (by omega)]; exact k1, k2, keep _ _ _ k3, k4⟩
theorem TVb.tbl (h : TVb W A a cap R vs) : TbL W W.heap.size a R := fun hne => by
  have hp : 0 < R.length := List.length_pos_iff.2 hne
  obtain ⟨g, cur, rfl, _, hh, hc⟩ := h.gr.at_ hp
  refine ⟨g, 0, rfl, (Array.getElem?_eq_some_iff.1 hh).1, fun i hi => ?_⟩
  obtain ⟨b, cp, f, h1, h2, h4, h5⟩ := h.rows i hi
  refine ⟨_, cp, by rw [Nat.zero_add]; exact hc i _ hi h1, h2.1, h2.2, fun _ => ⟨b, 0, rfl, h4.lt, fun j hj => ?_⟩⟩
  rw [Nat.zero_add, h4.cell (by omega), h5 j hj]
end
set_option maxRecDepth 100000 in
set_option maxHeartbeats 8000000 in
theorem walkRouteSlots (a : Option Addr) (c : Nat) (ds : List Int) (w : World) (hx : Ints .u8 w w.heap.size a ds) (hw : ∀ n ∈ ds, (Lit.int .u8 n).wf = true) (hc : ds.length ≤ c) (hcm : c ≤ maxLen) :
    Calls Try.prog 8 #[.slice a ds.length c] w fun e w' => e = .returned (.bool true) ∧ Below w.heap.size w w' := by
  have hb := isByte_of_wf hw
  clear hw
  by_cases hl : ds.length ≤ 1048576
  · have hl' : ¬ (1048576 : Int) < (ds.length : Int) := by omega
    go_enter Try.func8, Try.ntmps8
    go_wp2_with fail
    refine (drawRouteTo_any a c ds w hx hb hc hcm).mono ?_
    rintro e w1 ⟨at_, ct, R, f, t, rfl, h7, hct, ht, b1⟩
    have H7 := Lib.hid h7
    have T1 := Lib.hid ht
    have B1 := Lib.hid b1
    clear hx hb hc hcm ht b1 hl hl' hct
    have hR7 := h7.2
    clear h7
    obtain ⟨P, hP⟩ : ∃ P, P = rtOr R f t := ⟨_, rfl⟩
    have HP := Lib.hid hP
    have HPl := Lib.hid (show P.length ≤ 1048576 by rw [hP]; exact rtOr_sm R f t)
    clear hP
    go_wp2_with fail
    refine (routeTo_any at_ ct R f t w1 T1.out).mono ?_
    rw [← HP.out]
    rintro e w2 ⟨g2, c2, rfl, hr2, o2, b2⟩
    clear hr2
    have P2 := Lib.hid (own_of_list o2).ints
    have T2 := Lib.hid (T1.out.next b2)
    have B2 := Lib.hid (Below.next B1.out (Nat.le_refl _) b2)
    clear o2 b2 T1 B1
    go_wp2_with fail
    refine (specRouteTo_any at_ ct R f t w2 T2.out (by omega)).mono ?_
    rw [← HP.out]
    rintro e w3 ⟨g3, c3, rfl, hr3, o3, b3⟩
    clear hr3
    have W3 := Lib.hid (own_of_list o3).ints
    have P3 := Lib.hid (P2.out.next b3)
    have T3 := Lib.hid (T2.out.next b3)
    have B3 := Lib.hid (Below.next B2.out (Nat.le_refl _) b3)
    clear o3 b3 P2 T2 B2
    go_wp2_with fail
    refine (sameInts_any g2 g3 c2 c3 w3.heap.size w3.heap.size P P w3 P3.out W3.out HPl.out).mono ?_
    rintro e w4 ⟨rfl, n4, hw4⟩
    have B4 := Lib.hid (show Below w.heap.size w w4 by rw [hw4]; exact below_drewN B3.out n4)
    have P4 := Lib.hid (show Ints .i64 w4 w4.heap.size g2 P by rw [hw4]; exact P3.out.drewN n4)
    have T4 := Lib.hid (show RowsL w4 w4.heap.size at_ R by rw [hw4]; exact T3.out.drewN n4)
    clear B3 P3 T3 W3 hw4
    have HAL := Lib.hid (aliveR2_from B4.out)
    by_cases h0 : P.length = 0
    · have z4 : ((P.length : Int) == 0) = true := by simp [h0]
      have h0' : (P.length : Int) = 0 := by omega
      go_wp2_with (go_at_call 18; (with_reducible refine HAL.out.mono ?_); rintro e w5 ⟨rfl, h5⟩)
      go_ret
      exact ⟨rfl, h5⟩
    · have z4 : ((P.length : Int) == 0) = false := by rw [beq_eq_false_iff_ne]; omega
      have h0' : ¬ (P.length : Int) = 0 := by omega
      have hyes : RtYes R f t := by
        by_cases h : RtYes R f t
        · exact h
        · rw [HP.out, rtOr_no h] at h0; exact absurd rfl h0
      obtain ⟨i, tz, rfl, rfl, hi, htz, hok⟩ := endsOk_cases hyes.1
      have hPe : P = rtI (rtL R i tz) := by rw [HP.out, rtOr_yes hyes]
      have HRT := Lib.hid (rtL_ok htz hi hyes.2)
      obtain ⟨L, hL⟩ : ∃ L, L = rtL R i tz := ⟨_, rfl⟩
      rw [← hL] at hPe HRT
      have hPlen : P.length = L.length := by rw [hPe, rtI_len]
      have HPC : Hid (∀ k, k < L.length → ∃ bp offp, g2 = some ⟨bp, offp, none⟩ ∧ bp < w4.heap.size ∧ w4.cell? ⟨bp, offp + k, none⟩ = some (.int .i64 (nl L k : Int))) := fun k hk => by
        obtain ⟨bp, offp, e, hlt, h⟩ := P4.out.at_ (i := k) (by rw [hPlen]; exact hk)
        rw [hPe, rtI_el hk] at h
        exact ⟨bp, offp, e, hlt, h⟩
      have hLl := HRT.out.len
      have HOK := Lib.hid hok
      obtain ⟨n, hn⟩ : ∃ n, n = R.length := ⟨_, rfl⟩
      have HN := Lib.hid hn
      have hn1 : 1 ≤ n := by have := H7.out.1; omega
      rw [hPlen] at z4 h0' ⊢
      rw [← hn] at hR7 hLl ⊢
      have HCT : Hid (∀ (W : World), RowsL W w4.heap.size at_ R → ∀ i j, i < n → j < n → ∃ b off ad cp b' off', at_ = some ⟨b, off, none⟩ ∧ W.cell? ⟨b, off + i, none⟩ = some (.slice ad n cp) ∧ ad = some ⟨b', off', none⟩ ∧ W.cell? ⟨b', off' + j, none⟩ = some (.int .i64 (tg R i j))) := fun W h i j hi hj => by
        have h1 := tbl_cells h HOK.out (i := i) (j := j) (by rw [← HN.out]; exact hi) (by rw [← HN.out]; exact hj)
        rw [← HN.out] at h1
        exact h1
      have TW0 := Lib.hid (TVb.lit0 w4 w4.heap.size (Nat.le_refl _))
      have BW0 := Lib.hid (alloc_belowX w4 (.cells #[] 39))
      clear h0 hyes hi htz hok hPe hPlen hL hn HAL P4
      go_wp2
      go_loopw [7, 8] (fun o x wr => ∃ (k cap : Nat) (a' : Option Addr) (vs : List Value), k ≤ n ∧ x = .int .i64 (k : Int) ∧ o = .slice a' k cap ∧ TVb wr w4.heap.size a' cap (cnL R k) vs ∧ Below w4.heap.size w4 wr) (fun _ x _ => n - (intOf x).toNat)
      case atStart => exact ⟨0, 0, _, _, Nat.zero_le _, rfl, rfl, TW0.out, BW0.out⟩
      case round =>
        obtain ⟨k, cap, a', vs, hk, rfl, rfl, htw, hbl⟩ := hrel
        have HT := Lib.hid htw
        have HBL := Lib.hid hbl
        clear htw hbl TW0 BW0
        by_cases hlt : k < n
        · have hltI : (k : Int) < (n : Int) := by omega
          have HLT := Lib.hid hlt
          have HR0 := Lib.hid (GrowB.lit0 wr wr.heap.size (Nat.le_refl _))
          have HB0 := Lib.hid (alloc_belowX wr (.cells #[] 4))
          obtain ⟨wk, rfl⟩ : ∃ wk, wk = wr := ⟨wr, rfl⟩
          go_wp2
          go_loopw [9, 10] (fun r x wi => ∃ (m c9 : Nat) (a9 : Option Addr), m ≤ n ∧ x = .int .i64 (m : Int) ∧ r = .slice a9 m c9 ∧ GrowB wi wk.heap.size a9 m c9 (cnR R k m) ∧ Below wk.heap.size wk wi) (fun _ x _ => n - (intOf x).toNat)
          case atStart => exact ⟨0, 0, _, Nat.zero_le _, rfl, rfl, HR0.out, HB0.out⟩
          case round =>
            obtain ⟨m, c9, a9, hm, rfl, rfl, hg, hb⟩ := hrel
            have HG := Lib.hid hg
            have HB := Lib.hid hb
            clear hg hb HR0 HB0
            by_cases hlm : m < n
            · have hlmI : (m : Int) < (n : Int) := by omega
              have HLM := Lib.hid hlm
              have hTr := T4.out.below (HBL.out.trans (HB.out.mono HBL.out.size))
              obtain ⟨b1, off1, ad1, cp1, b2, off2, rfl, hrow1, rfl, hg1⟩ := HCT.out wr hTr k m HLT.out hlm
              obtain ⟨b3, off3, ad3, cp3, b4, off4, e3, hrow2, rfl, hg2⟩ := HCT.out wr hTr m k hlm HLT.out
              injection e3 with e3
              injection e3 with e3 e4 _
              subst e3 e4
              have HCB : Hid (cnB R k m = (decide (0 < tg R k m) || decide (0 < tg R m k))) := rfl
              have HEV := Lib.hid (cnR_next R k m)
              obtain ⟨x1, hx1⟩ : ∃ x1, x1 = tg R k m := ⟨_, rfl⟩
              obtain ⟨x2, hx2⟩ : ∃ x2, x2 = tg R m k := ⟨_, rfl⟩
              rw [← hx1, ← hx2] at HCB
              rw [← hx1] at hg1
              rw [← hx2] at hg2
              rw [HCB.out] at HEV
              have HAP := Lib.hid (fun (v : Bool) => And.intro (HG.out.alloc (.cells #[.bool v] 4)) (And.intro (cell_of_row _ _ 0 _ _ _ (heap_alloc_last wr (.cells #[.bool v] 4))) (And.intro (Nat.le_trans HB.out.size (alloc_belowX wr (.cells #[.bool v] 4)).size) (HB.out.alloc HB.out.size (.cells #[.bool v] 4)))))
              clear hTr hlm hx1 hx2 HCB
              by_cases h1 : 0 < x1
              · have d1 : decide (0 < x1) = true := decide_eq_true h1
                rw [d1, Bool.true_or] at HEV
                have A5 := Lib.hid (HAP.out true)
                go_wp2_with (at_builtin; refine wpList_appendB1 (.tmp 51) (.tmp 70) wk.heap.size a9 m c9 (cnR R k m) ⟨wr.heap.size, 0, none⟩ true rfl rfl rfl rfl A5.out.1 A5.out.2.1 (by omega) A5.out.2.2.1 ?_; intro a5 cap5 w5 h5 b5; have G5 := Lib.hid h5; have HB5 := Lib.hid (A5.out.2.2.2.trans b5); clear h5 b5)
                go_roundw
                case rel => exact ⟨m + 1, cap5, a5, HLM.out, by go_num, rfl, by rw [HEV.out]; exact G5.out, HB5.out⟩
                case measure => have := HLM.out; simp [intOf]; omega
              · have d1 : decide (0 < x1) = false := decide_eq_false h1
                rw [d1, Bool.false_or] at HEV
                by_cases h2 : 0 < x2
                · have d2 : decide (0 < x2) = true := decide_eq_true h2
                  rw [d2] at HEV
                  have A5 := Lib.hid (HAP.out true)
                  go_wp2_with (at_builtin; refine wpList_appendB1 (.tmp 51) (.tmp 70) wk.heap.size a9 m c9 (cnR R k m) ⟨wr.heap.size, 0, none⟩ true rfl rfl rfl rfl A5.out.1 A5.out.2.1 (by omega) A5.out.2.2.1 ?_; intro a5 cap5 w5 h5 b5; have G5 := Lib.hid h5; have HB5 := Lib.hid (A5.out.2.2.2.trans b5); clear h5 b5)
                  go_roundw
                  case rel => exact ⟨m + 1, cap5, a5, HLM.out, by go_num, rfl, by rw [HEV.out]; exact G5.out, HB5.out⟩
                  case measure => have := HLM.out; simp [intOf]; omega
                · have d2 : decide (0 < x2) = false := decide_eq_false h2
                  rw [d2] at HEV
                  have A5 := Lib.hid (HAP.out false)
                  go_wp2_with (at_builtin; refine wpList_appendB1 (.tmp 51) (.tmp 70) wk.heap.size a9 m c9 (cnR R k m) ⟨wr.heap.size, 0, none⟩ false rfl rfl rfl rfl A5.out.1 A5.out.2.1 (by omega) A5.out.2.2.1 ?_; intro a5 cap5 w5 h5 b5; have G5 := Lib.hid h5; have HB5 := Lib.hid (A5.out.2.2.2.trans b5); clear h5 b5)
                  go_roundw
                  case rel => exact ⟨m + 1, cap5, a5, HLM.out, by go_num, rfl, by rw [HEV.out]; exact G5.out, HB5.out⟩
                  case measure => have := HLM.out; simp [intOf]; omega
            · obtain rfl : n = m := by omega
              obtain ⟨b9, f9, rfl, hb9, hc5, hm5, hri, hfe⟩ := HG.out.row (by omega)
              have T9 := Lib.hid ((HT.out.next HB.out).next (alloc_belowX wr (.cells #[.slice (some ⟨b9, 0, none⟩) n c9] 39)))
              have R9 := Lib.hid (hri.of_block (Below.heap_alloc wr (.cells #[.slice (some ⟨b9, 0, none⟩) n c9] 39) b9 hri.lt))
              have HF := Lib.hid (And.intro hc5 hm5)
              have HFE := Lib.hid hfe
              have HC9 := Lib.hid (cell_of_row _ _ 0 _ _ _ (heap_alloc_last wr (.cells #[.slice (some ⟨b9, 0, none⟩) n c9] 39)))
              have HS9 := Lib.hid (Nat.le_trans (Nat.le_trans HBL.out.size HB.out.size) (alloc_belowX wr (.cells #[.slice (some ⟨b9, 0, none⟩) n c9] 39)).size)
              have HB9 := Lib.hid ((HBL.out.trans (HB.out.mono HBL.out.size)).alloc (Nat.le_trans HBL.out.size HB.out.size) (.cells #[.slice (some ⟨b9, 0, none⟩) n c9] 39))
              have hgr := T9.out.gr
              rw [cnL_len] at hgr
              have HGR := Lib.hid hgr
              clear hgr hri hfe hc5 hm5 hb9
              go_wp2_with (at_builtin; refine wpList_appendVb (.tmp 72) (.tmp 74) w4.heap.size a' k cap vs ⟨wr.heap.size, 0, none⟩ (some ⟨b9, 0, none⟩) n c9 rfl rfl rfl rfl HGR.out HC9.out (by omega) HS9.out ?_; intro a7 cap7 w7 hg7 hgb7; have HG7 := Lib.hid hg7; have HGB7 := Lib.hid hgb7; clear hg7 hgb7)
              have T7 := Lib.hid (T9.out.app (cnR_len R k n).symm HF.out R9.out HFE.out (by rw [cnL_len]; exact HG7.out) (by rw [cnL_len]; exact HGB7.out))
              have HB7 := Lib.hid (HB9.out.trans (HGR.out.keepsBelow HGB7.out HS9.out))
              have e9 : cnL R (k + 1) = cnL R k ++ [cnR R k n] := by rw [cnL_next, HN.out]
              rw [← e9] at T7
              clear e9
              go_roundw
              case rel => exact ⟨k + 1, cap7, a7, _, HLT.out, by go_num, rfl, T7.out, HB7.out⟩
              case measure => have := HLT.out; simp [intOf]; omega
        · obtain rfl : n = k := by omega
          have hEe : cnL R n = cnL R R.length := by rw [HN.out]
          obtain ⟨E, hE⟩ : ∃ E, E = cnL R R.length := ⟨_, rfl⟩
          have hEl : E.length = n := by rw [hE, cnL_len, HN.out]
          have HE := Lib.hid (show TbL wr wr.heap.size a' E by rw [hE, ← hEe]; exact HT.out.tbl)
          obtain ⟨S, hS⟩ : ∃ S, S = grL E := ⟨_, rfl⟩
          have hSl : S.length = n := by rw [hS, hE, cn_len HOK.out, HN.out]
          have HSV := Lib.hid (show svB E S = true by rw [hS, hE]; exact cn_sv HOK.out)
          have HSD : Hid (∀ x y, x < n → y < n → 0 < tg R x y → el S x ≠ el S y) := fun x y hx hy hg => by
            rw [hS, hE]; exact cn_differ HOK.out (by rw [← HN.out]; exact hx) (by rw [← HN.out]; exact hy) hg
          have HGS := Lib.hid (fun (W : World) (h : TbL W W.heap.size a' E) => by have h1 := greedySlots_any a' cap E W h; rw [← hS, hEl] at h1; exact h1)
          have HSS := Lib.hid (fun (W : World) v c9 (h : TbL W W.heap.size a' E) (hi : Ints .i64 W W.heap.size v S) => by have h1 := slotsValid_is a' v cap c9 E S true W h hi HSV.out; rw [hEl, hSl] at h1; exact h1)
          have HSL := Lib.hid hSl
          have HB4 := Lib.hid (Below.next B4.out (Nat.le_refl _) HBL.out)
          have zn : ((n : Int) != (n : Int)) = false := by simp
          clear hEe hE hEl hS hSl hlt hk HT
          go_wp2_with fail
          refine (HGS.out wr HE.out).mono ?_
          rintro e w5 ⟨g5, c5, rfl, hr5, o5, b5⟩
          rw [HSL.out]
          have G5 := Lib.hid (own_of_list o5).ints
          have E5 := Lib.hid (show TbL w5 w5.heap.size a' E from HE.out.next b5)
          have B5 := Lib.hid (Below.next HB4.out (Nat.le_refl _) b5)
          have HBW := Lib.hid (Below.next HBL.out (Nat.le_refl _) b5)
          clear hr5 o5 b5 HE HB4 HBL HGS
          go_wp2
          go_loopw [12] (fun x wr => ∃ k q : Nat, k < L.length ∧ x = .int .i64 (k : Int) ∧ wr = w5.drewN q) (fun x _ => L.length - (intOf x).toNat)
          case atStart => exact ⟨0, 0, HRT.out.pos, rfl, rfl⟩
          case round =>
            obtain ⟨k, q, hk, rfl, rfl⟩ := hrel
            have hk9 : k ≤ 1000 := by omega
            have hkI0 : (k : Int) < (L.length : Int) := by omega
            have rk := wrapW (n := (k : Int) + 1) (by omega)
            have rk' := wrapW' (n := (k : Int) + 1) (by omega)
            by_cases hk1 : k + 1 < L.length
            · have hkI : (k : Int) + 1 < (L.length : Int) := by omega
              have HK1 := Lib.hid hk1
              obtain ⟨bp, offp, rfl, hbp, hck⟩ := HPC.out k hk
              obtain ⟨bp2, offp2, e2, _, hck1⟩ := HPC.out (k + 1) hk1
              injection e2 with e2
              injection e2 with e2 e2' _
              subst e2 e2'
              have hck := (HBW.out.cell (p := ⟨bp, offp + k, none⟩) hbp).trans hck
              have hck1 := (HBW.out.cell (p := ⟨bp, offp + (k + 1), none⟩) hbp).trans hck1
              have hlt1 : nl L k < n := by rw [HN.out]; exact HRT.out.lt k hk
              have hlt2 : nl L (k + 1) < n := by rw [HN.out]; exact HRT.out.lt (k + 1) hk1
              have hdf := HSD.out _ _ hlt1 hlt2 (HRT.out.link hk1).1
              obtain ⟨x1, hx1⟩ : ∃ x1, x1 = nl L k := ⟨_, rfl⟩
              obtain ⟨x2, hx2⟩ : ∃ x2, x2 = nl L (k + 1) := ⟨_, rfl⟩
              rw [← hx1] at hck hlt1 hdf
              rw [← hx2] at hck1 hlt2 hdf
              have hx1I : (x1 : Int) < (n : Int) := by omega
              have hx2I : (x2 : Int) < (n : Int) := by omega
              obtain ⟨bs, os, rfl, _, hc1⟩ := G5.out.at_ (i := x1) (by rw [HSL.out]; exact hlt1)
              obtain ⟨bs2, os2, e3, _, hc2⟩ := G5.out.at_ (i := x2) (by rw [HSL.out]; exact hlt2)
              injection e3 with e3
              injection e3 with e3 e3' _
              subst e3 e3'
              have z8 : (el S x1 == el S x2) = false := by simp [hdf]
              generalize el S x1 = y1 at *
              generalize el S x2 = y2 at *
              clear hx1 hx2 hdf hlt1 hlt2 hk1 hbp hk9
              go_wp2
              go_quiet (fail)
              go_wp2
              go_roundw
              case rel => exact ⟨k + 1, _, HK1.out, by go_num, rfl⟩
              case measure => have := HK1.out; simp [intOf]; omega
            · have hkI : ¬ (k : Int) + 1 < (L.length : Int) := by omega
              have HSW := Lib.hid (HSS.out (w5.drewN q) g5 c5 (E5.out.next (below_drewN (Below.refl _ _) q)) (G5.out.drewN q))
              have B6 := Lib.hid (below_drewN B5.out q)
              go_wp2_with (go_at_call 33; ((with_reducible refine HSW.out.mono ?_); rintro e w7 ⟨rfl, b7⟩; have B7 := Lib.hid (Below.next B6.out (Nat.le_refl _) b7); clear b7))
              go_ret
              exact ⟨rfl, B7.out⟩
  · have hl' : (1048576 : Int) < (ds.length : Int) := by omega
    go_enter Try.func8, Try.ntmps8
    go_wp2
    go_ret
    exact ⟨rfl, Below.refl _ _⟩
end Go.Proofs.Ytnmhiagnmfpipaa
