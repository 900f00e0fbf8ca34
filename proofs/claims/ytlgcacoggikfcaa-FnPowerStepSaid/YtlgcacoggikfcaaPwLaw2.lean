/-
  The law of PowerStep, walked: it returns true for every code, and writes into nothing that was there. No condition.
-/
import Derived.Test.YtlgcacoggikfcaaPwDraw6
import Derived.Test.YtlgcacoggikfcaaPwLaw1
namespace Go.Proofs.Ytlgcacoggikfcaa
open Go.RowKit

theorem stOr_len (R : List (List Int)) (N T : Int) (P : List Int) : (stOr R N T P).length ≤ 5 := by
  by_cases h : LkOk R N T ∧ PwOk R.length P
  · rw [stOr_yes h.1 h.2, stL_length]; exact h.1.1.2
  · rw [show stOr R N T P = [] from if_neg h]; exact Nat.zero_le _
/-- Greater powers: each by k + 1, moved to at most 10000. -/
def moI (P : List Int) (k : Nat) : Int := if el P k + (k : Int) + 1 < 10000 then el P k + (k : Int) + 1 else 10000
def moL (P : List Int) : List Int := (List.range P.length).map (moI P)
theorem moL_next {P : List Int} {k : Nat} : (List.range (k + 1)).map (moI P) = (List.range k).map (moI P) ++ [moI P k] := by rw [List.range_succ, List.map_append]; rfl
theorem moL_el {P : List Int} {k : Nat} (h : k < P.length) : el (moL P) k = moI P k := by simp [moL, el, h]
theorem moL_ok {n : Nat} {P : List Int} (h : PwOk n P) : PwOk n (moL P) := ⟨by simp [moL, h.1], fun j hj => by
  rw [moL_el (by rw [h.1]; exact hj)]
  have := h.2 j hj
  unfold moI
  split <;> omega⟩
theorem moL_ge {n : Nat} {P : List Int} (h : PwOk n P) : ∀ j, j < n → el P j ≤ el (moL P) j := fun j hj => by
  rw [moL_el (by rw [h.1]; exact hj)]
  have := h.2 j hj
  unfold moI
  split <;> omega
/-- All of the first k numbers are below 10000. -/
def ltTo (S : List Int) (k : Nat) : Prop := ∀ j, j < k → el S j < 10000
instance (S : List Int) (k : Nat) : Decidable (ltTo S k) := inferInstanceAs (Decidable (∀ j, j < k → _ < _))
theorem ltTo_next {S : List Int} {k : Nat} {x : Int} {r : Bool} (hx : el S k = x) (h : decide (x < 10000) = r) (hs : decide (ltTo S k) = true) : decide (ltTo S (k + 1)) = r := by
  subst hx h
  rw [decide_eq_decide]
  have hs := of_decide_eq_true hs
  exact ⟨fun h => h k (Nat.lt_succ_self k), fun h j hj => by
    rcases Nat.lt_succ_iff_lt_or_eq.1 hj with h2 | rfl
    · exact hs j h2
    · exact h⟩
theorem ltTo_off {S : List Int} {k : Nat} (hs : decide (ltTo S k) = false) : decide (ltTo S (k + 1)) = false :=
  decide_eq_false fun h => of_decide_eq_false hs fun j hj => h j (by omega)
set_option maxHeartbeats 4000000 in
theorem walkPowerStep (a : Option Addr) (c : Nat) (ds : List Int) (w : World) (hx : Ints .u8 w w.heap.size a ds) (hw : ∀ n ∈ ds, (Lit.int .u8 n).wf = true) (hc : ds.length ≤ c) (hcm : c ≤ maxLen) :
    Calls Try.prog 5 #[.slice a ds.length c] w fun e w' => e = .returned (.bool true) ∧ Below w.heap.size w w' := by
  have hb := isByte_of_wf hw
  clear hw
  by_cases hl : ds.length ≤ 1048576
  · go_enter Try.func5, Try.ntmps5
    go_wp2_with fail
    refine (drawPowerStep_any a c ds w hx hb hc hcm).mono ?_
    rintro e w1 ⟨ga, gc, N, T, R, pv, pc, P, rfl, hq, _, hp, bl⟩
    have hal := alloc_belowX w1 (.cells #[.slice ga R.length gc, .int .i64 N, .int .i64 T] 25)
    have X1 := Lib.hid (lkVar_new w1 (.slice ga R.length gc) (.int .i64 N) (.int .i64 T))
    have Q1 := Lib.hid (RowsL.next hq hal)
    have P1 := Lib.hid (hp.next hal)
    have B1 := Lib.hid (Below.next bl (Nat.le_refl _) hal)
    clear hx hb hc hcm hq hp bl hal
    obtain ⟨S, hS⟩ : ∃ S, stOr R N T P = S := ⟨_, rfl⟩
    have HS := Lib.hid hS
    have hSl : S.length ≤ 5 := by rw [← hS]; exact stOr_len R N T P
    have zs : decide (S = S) = true := by simp
    have hi := powerStep_any ga pv gc pc R N T P _ Q1.out P1.out
    rw [hS] at hi
    have HI := Lib.hid hi
    clear hS hi
    obtain ⟨b3, hb3⟩ : ∃ b3, b3 = w1.heap.size := ⟨_, rfl⟩
    go_wp2_with fail
    generalize w1.alloc (.cells #[.slice ga R.length gc, .int .i64 N, .int .i64 T] 25) = wa at *
    rw [← hb3] at X1 ⊢
    clear hb3
    refine HI.out.mono ?_
    rintro e w2 ⟨v2, c2, rfl, _, o2, g2⟩
    have S2 := Lib.hid (OwnInts.ints9 o2)
    have X2 := Lib.hid (X1.out.next g2)
    have Q2 := Lib.hid (Q1.out.next g2)
    have P2 := Lib.hid (P1.out.next g2)
    have B2 := Lib.hid (Below.next B1.out (Nat.le_refl _) g2)
    clear o2 g2 X1 Q1 P1 B1 HI
    have hj := specPowerStep_any ga pv gc pc R N T P w2 Q2.out P2.out
    rw [HS.out] at hj
    have HJ := Lib.hid hj
    clear hj
    have vg := X2.out.g
    have vn := X2.out.n
    have vt := X2.out.t
    go_wp2_with fail
    refine HJ.out.mono ?_
    rintro e w3 ⟨v3, c3, rfl, _, o3, g3⟩
    have U3 := Lib.hid (OwnInts.ints9 o3)
    have S3 := Lib.hid (S2.out.next g3)
    have X3 := Lib.hid (X2.out.next g3)
    have Q3 := Lib.hid (Q2.out.next g3)
    have P3 := Lib.hid (P2.out.next g3)
    have B3 := Lib.hid (Below.next B2.out (Nat.le_refl _) g3)
    clear o3 g3 S2 X2 Q2 P2 B2 HJ vg vn vt
    go_wp2_with fail
    refine (sameInts_any v2 v3 c2 c3 w3.heap.size w3.heap.size S S w3 S3.out U3.out (by omega)).mono ?_
    rintro e w4' ⟨rfl, n4, rfl⟩
    have S4 : Hid (Ints .i64 (w3.drewN n4) (w3.drewN n4).heap.size v2 S) := Lib.hid (S3.out.drewN n4)
    have X4 := Lib.hid (X3.out.drewN n4)
    have Q4 : Hid (RowsL (w3.drewN n4) (w3.drewN n4).heap.size ga R) := Lib.hid (Q3.out.drewN n4)
    have P4 : Hid (Ints .i64 (w3.drewN n4) (w3.drewN n4).heap.size pv P) := Lib.hid (P3.out.drewN n4)
    have B4 := Lib.hid (below_drewN B3.out n4)
    clear S3 X3 Q3 P3 B3 U3
    generalize w3.drewN n4 = w4 at *
    by_cases hok : LkOk R N T ∧ PwOk R.length P
    · have HL := Lib.hid hok.1
      have HP := Lib.hid hok.2
      have hSL : S = stL R N T P := by rw [← HS.out]; exact stOr_yes hok.1 hok.2
      have hlen : S.length = P.length := by rw [hSL, stL_length]; exact hok.2.1.symm
      have HSe := Lib.hid (fun k (hk : k < P.length) => show el S k = stI R N T P k by rw [hSL]; exact stL_el (by rw [← hok.2.1]; exact hk))
      have HSL := Lib.hid hSL
      have hp0 : 1 ≤ P.length := by rw [hok.2.1]; exact hok.1.1.1
      have hp5 : P.length ≤ 5 := by rw [hok.2.1]; exact hok.1.1.2
      have z0 : ((P.length : Int) == 0) = false := by rw [beq_eq_false_iff_ne]; omega
      have HLen := Lib.hid hlen
      rw [hlen]
      clear hok hSL hSl
      have G0 := Lib.hid (Grow.lit0 .i64 3 w4 w4.heap.size (Nat.le_refl _))
      have HA := Lib.hid (alloc_belowX w4 (.cells #[] 3))
      clear hlen
      go_wp2_with fail
      clear z0
      go_loopw [6, 7, 8] (fun s r x wr => ∃ (k : Nat) (v : Option Addr) (cv : Nat) (b : Bool), k ≤ P.length ∧ x = .int .i64 k ∧ s = .slice v k cv ∧ r = .bool b ∧ decide (ltTo S k) = b ∧ Grow .i64 3 wr w4.heap.size v k cv ((List.range k).map (moI P)) ∧ Below w4.heap.size w4 wr) (fun _ _ x _ => P.length - (intOf x).toNat)
      case atStart => exact ⟨0, _, _, true, Nat.zero_le _, rfl, rfl, rfl, decide_eq_true (fun j hj => absurd hj (by omega)), G0.out, HA.out⟩
      case round =>
        obtain ⟨k, v, cv, b, hk, rfl, rfl, rfl, hlt, hgr, hbel⟩ := hrel
        have HLt := Lib.hid hlt
        have HG := Lib.hid hgr
        have HB := Lib.hid hbel
        have hsz : w4.heap.size ≤ wr.heap.size := hbel.size
        clear hlt hgr hbel G0 HA
        by_cases hkl : k < P.length
        · obtain ⟨b1, o1, rfl, _, hc1⟩ := (P4.out.below HB.out).at_ hkl
          obtain ⟨b2, o2, rfl, hb2, hc2⟩ := (S4.out.below HB.out).at_ (i := k) (by rw [HLen.out]; exact hkl)
          have hpx := HP.out.2 k (by rw [← HP.out.1]; exact hkl)
          have HN := Lib.hid (moL_next (P := P) (k := k))
          have hmo : moI P k = if el P k + (k : Int) + 1 < 10000 then el P k + (k : Int) + 1 else 10000 := rfl
          have HOff := Lib.hid (ltTo_off (S := S) (k := k))
          obtain ⟨y, hy⟩ : ∃ y, el S k = y := ⟨_, rfl⟩
          have HNx := Lib.hid (fun r (h : decide (y < 10000) = r) hs => ltTo_next (S := S) (k := k) hy h hs)
          rw [hy] at hc2
          generalize el P k = x at *
          obtain ⟨u, hu⟩ : ∃ u, x + (k : Int) + 1 = u := ⟨_, rfl⟩
          rw [hu] at hmo
          have r1 := wrapS (n := x + (k : Int)) (by omega)
          have r1' := wrapS' (n := x + (k : Int)) (by omega)
          have r2 := wrapS (n := u) (by omega)
          have r2' := wrapS' (n := u) (by omega)
          obtain ⟨mo, hmo2⟩ : ∃ mo, moI P k = mo := ⟨_, rfl⟩
          rw [hmo2] at HN hmo
          have HMo := Lib.hid hmo
          generalize (List.range k).map (moI P) = zs at *
          clear hmo hmo2 hpx hy
          by_cases hu1 : u < 10000
          · obtain rfl : mo = u := by rw [HMo.out, if_pos hu1]
            cases b
            · have HF := Lib.hid (HOff.out HLt.out)
              go_wp2_with (at_builtin; refine wpList_append1 (.tmp 39) (.tmp 48) w4.heap.size v k cv zs ⟨wr.heap.size, 0, none⟩ mo rfl rfl rfl rfl (HG.out.alloc _) (by simp) (by omega) (by simp; omega) ?_; intro a3 cap3 w8 hg3 hb3; have HG3 := Lib.hid hg3; have HB3 := Lib.hid ((HB.out.alloc hsz _).trans hb3); clear hg3 hb3)
              go_roundw
              case rel => exact ⟨k + 1, a3, cap3, false, by omega, by go_num, rfl, rfl, HF.out, by rw [HN.out]; exact HG3.out, HB3.out⟩
              case measure => simp [intOf]; omega
            · by_cases hy1 : y < 10000
              · have HF := Lib.hid (HNx.out true (decide_eq_true hy1) HLt.out)
                go_wp2_with (at_builtin; refine wpList_append1 (.tmp 39) (.tmp 48) w4.heap.size v k cv zs ⟨wr.heap.size, 0, none⟩ mo rfl rfl rfl rfl (HG.out.alloc _) (by simp) (by omega) (by simp; omega) ?_; intro a3 cap3 w8 hg3 hb3; have HG3 := Lib.hid hg3; have HB3 := Lib.hid ((HB.out.alloc hsz _).trans hb3); have hc9 := (hb3.cell (p := ⟨b2, o2 + k, none⟩) (by assumption)).trans (cell_next hc2 (alloc_belowX _ _)); clear hg3 hb3)
                go_roundw
                case rel => exact ⟨k + 1, a3, cap3, true, by omega, by go_num, rfl, rfl, HF.out, by rw [HN.out]; exact HG3.out, HB3.out⟩
                case measure => simp [intOf]; omega
              · have HF := Lib.hid (HNx.out false (decide_eq_false hy1) HLt.out)
                go_wp2_with (at_builtin; refine wpList_append1 (.tmp 39) (.tmp 48) w4.heap.size v k cv zs ⟨wr.heap.size, 0, none⟩ mo rfl rfl rfl rfl (HG.out.alloc _) (by simp) (by omega) (by simp; omega) ?_; intro a3 cap3 w8 hg3 hb3; have HG3 := Lib.hid hg3; have HB3 := Lib.hid ((HB.out.alloc hsz _).trans hb3); have hc9 := (hb3.cell (p := ⟨b2, o2 + k, none⟩) (by assumption)).trans (cell_next hc2 (alloc_belowX _ _)); clear hg3 hb3)
                go_roundw
                case rel => exact ⟨k + 1, a3, cap3, false, by omega, by go_num, rfl, rfl, HF.out, by rw [HN.out]; exact HG3.out, HB3.out⟩
                case measure => simp [intOf]; omega
          · obtain rfl : mo = 10000 := by rw [HMo.out, if_neg hu1]
            cases b
            · have HF := Lib.hid (HOff.out HLt.out)
              go_wp2_with (at_builtin; refine wpList_append1 (.tmp 39) (.tmp 48) w4.heap.size v k cv zs ⟨wr.heap.size, 0, none⟩ 10000 rfl rfl rfl rfl (HG.out.alloc _) (by simp) (by omega) (by simp; omega) ?_; intro a3 cap3 w8 hg3 hb3; have HG3 := Lib.hid hg3; have HB3 := Lib.hid ((HB.out.alloc hsz _).trans hb3); clear hg3 hb3)
              go_roundw
              case rel => exact ⟨k + 1, a3, cap3, false, by omega, by go_num, rfl, rfl, HF.out, by rw [HN.out]; exact HG3.out, HB3.out⟩
              case measure => simp [intOf]; omega
            · by_cases hy1 : y < 10000
              · have HF := Lib.hid (HNx.out true (decide_eq_true hy1) HLt.out)
                go_wp2_with (at_builtin; refine wpList_append1 (.tmp 39) (.tmp 48) w4.heap.size v k cv zs ⟨wr.heap.size, 0, none⟩ 10000 rfl rfl rfl rfl (HG.out.alloc _) (by simp) (by omega) (by simp; omega) ?_; intro a3 cap3 w8 hg3 hb3; have HG3 := Lib.hid hg3; have HB3 := Lib.hid ((HB.out.alloc hsz _).trans hb3); have hc9 := (hb3.cell (p := ⟨b2, o2 + k, none⟩) (by assumption)).trans (cell_next hc2 (alloc_belowX _ _)); clear hg3 hb3)
                go_roundw
                case rel => exact ⟨k + 1, a3, cap3, true, by omega, by go_num, rfl, rfl, HF.out, by rw [HN.out]; exact HG3.out, HB3.out⟩
                case measure => simp [intOf]; omega
              · have HF := Lib.hid (HNx.out false (decide_eq_false hy1) HLt.out)
                go_wp2_with (at_builtin; refine wpList_append1 (.tmp 39) (.tmp 48) w4.heap.size v k cv zs ⟨wr.heap.size, 0, none⟩ 10000 rfl rfl rfl rfl (HG.out.alloc _) (by simp) (by omega) (by simp; omega) ?_; intro a3 cap3 w8 hg3 hb3; have HG3 := Lib.hid hg3; have HB3 := Lib.hid ((HB.out.alloc hsz _).trans hb3); have hc9 := (hb3.cell (p := ⟨b2, o2 + k, none⟩) (by assumption)).trans (cell_next hc2 (alloc_belowX _ _)); clear hg3 hb3)
                go_roundw
                case rel => exact ⟨k + 1, a3, cap3, false, by omega, by go_num, rfl, rfl, HF.out, by rw [HN.out]; exact HG3.out, HB3.out⟩
                case measure => simp [intOf]; omega
        · obtain rfl : P.length = k := by omega
          have hpo := powerStep_any ga v gc cv R N T (moL P) wr ((Q4.out.below HB.out).more hsz) (Grow.ints HG.out)
          rw [stOr_yes HL.out (moL_ok HP.out), show (moL P).length = P.length by simp [moL]] at hpo
          have HPo := Lib.hid hpo
          have X5 := Lib.hid (X4.out.next HB.out)
          have S5 := Lib.hid (S4.out.next HB.out)
          have P5 := Lib.hid (P4.out.next HB.out)
          have Q5 := Lib.hid (Q4.out.next HB.out)
          have B5 := Lib.hid (Below.next B4.out (Nat.le_refl _) HB.out)
          have vg := X5.out.g
          have vn := X5.out.n
          have vt := X5.out.t
          clear hpo HG HB hsz
          go_wp2_with fail
          refine HPo.out.mono ?_
          rintro e w6 ⟨v6, c6, rfl, _, o6, g6⟩
          have U6 := Lib.hid (OwnInts.ints9 o6)
          have X6 := Lib.hid (X5.out.next g6)
          have S6 := Lib.hid (S5.out.next g6)
          have P6 := Lib.hid (P5.out.next g6)
          have Q6 := Lib.hid (Q5.out.next g6)
          have B6 := Lib.hid (Below.next B5.out (Nat.le_refl _) g6)
          have hul : (stL R N T (moL P)).length = P.length := by rw [stL_length]; exact HP.out.1.symm
          have HUl := Lib.hid hul
          have HUe := Lib.hid (fun k (hk : k < P.length) => show el (stL R N T (moL P)) k = stI R N T (moL P) k from stL_el (by rw [← HP.out.1]; exact hk))
          have HMn := Lib.hid (fun k (hk : k < P.length) => step_mono HL.out (moL_ge HP.out) (i := k) (by rw [← HP.out.1]; exact hk))
          have HPs := Lib.hid (fun k (hk : k < P.length) => (stI_in HL.out HP.out (i := k) (by rw [← HP.out.1]; exact hk)).1)
          rw [hul]
          clear o6 g6 HPo X5 S5 P5 Q5 B5 vg vn vt hul
          go_wp2_with fail
          go_loopw [10] (fun x wr => ∃ k q : Nat, k ≤ P.length ∧ x = .int .i64 k ∧ wr = w6.drewN q) (fun x _ => P.length - (intOf x).toNat)
          case atStart => exact ⟨0, 0, Nat.zero_le _, rfl, rfl⟩
          case round =>
            obtain ⟨k, q, hk2, rfl, rfl⟩ := hrel
            by_cases hkl2 : k < P.length
            · obtain ⟨b1, o1, rfl, _, hc1⟩ := U6.out.at_ (i := k) (by rw [HUl.out]; exact hkl2)
              obtain ⟨b2, o2, rfl, _, hc2⟩ := S6.out.at_ (i := k) (by rw [HLen.out]; exact hkl2)
              have h1 := HMn.out k hkl2
              have h2 := HPs.out k hkl2
              rw [← HUe.out k hkl2, ← HSe.out k hkl2] at h1
              rw [← HSe.out k hkl2] at h2
              generalize el (stL R N T (moL P)) k = u at *
              generalize el S k = s at *
              have h3 : ¬ u < s := by omega
              have h4 : ¬ s < 1 := by omega
              clear h1 h2
              go_wp2
              go_quiet (fail)
              go_wp2
              go_roundw
              case rel => exact ⟨k + 1, _, by omega, by go_num, rfl⟩
              case measure => simp [intOf]; omega
            · obtain rfl : P.length = k := by omega
              have S7 : Hid (Ints .i64 (w6.drewN q) (w6.drewN q).heap.size v2 S) := Lib.hid (S6.out.drewN q)
              have P7 : Hid (Ints .i64 (w6.drewN q) (w6.drewN q).heap.size pv P) := Lib.hid (P6.out.drewN q)
              have Q7 : Hid (RowsL (w6.drewN q) (w6.drewN q).heap.size ga R) := Lib.hid (Q6.out.drewN q)
              have X7 := Lib.hid (X6.out.drewN q)
              have B7 := Lib.hid (below_drewN B6.out q)
              clear S6 P6 Q6 X6 B6 U6
              generalize w6.drewN q = w7 at *
              cases b
              · go_wp2
                go_ret
                exact ⟨rfl, B7.out⟩
              · have hsi := sameInts_any v2 pv c2 pc w7.heap.size w7.heap.size S P w7 S7.out P7.out (by rw [HLen.out]; omega)
                rw [HLen.out] at hsi
                by_cases heq : S = P
                · rw [decide_eq_true heq] at hsi
                  have HSi := Lib.hid hsi
                  have hm : decide (MtOk R N T P) = true := decide_eq_true (fix_meet HL.out HP.out (by rw [← HSL.out]; exact heq) (fun i hi => by
                    have h1 := of_decide_eq_true HLt.out i (by rw [HP.out.1]; exact hi)
                    rw [HSe.out i (by rw [HP.out.1]; exact hi)] at h1
                    exact h1))
                  have hlm := fun m => linksMeet_any ga pv gc pc R N T P (w7.drewN m) (Q7.out.drewN m) (P7.out.drewN m)
                  rw [hm] at hlm
                  have HLm := Lib.hid hlm
                  have vg := X7.out.g
                  have vn := X7.out.n
                  have vt := X7.out.t
                  clear hsi hm hlm heq
                  go_wp2_with fail
                  refine HSi.out.mono ?_
                  rintro e w8 ⟨rfl, m, rfl⟩
                  go_wp2_with fail
                  refine (HLm.out m).mono ?_
                  rintro e w9 ⟨rfl, b9⟩
                  go_wp2
                  go_ret
                  exact ⟨rfl, Below.next (below_drewN B7.out m) (Nat.le_refl _) b9⟩
                · rw [decide_eq_false heq] at hsi
                  have HSi := Lib.hid hsi
                  clear hsi heq
                  go_wp2_with fail
                  refine HSi.out.mono ?_
                  rintro e w8 ⟨rfl, m, rfl⟩
                  go_wp2
                  go_ret
                  exact ⟨rfl, below_drewN B7.out m⟩
    · have hS0 : S = [] := by rw [← HS.out]; exact if_neg hok
      subst hS0
      have HAL := Lib.hid (aliveP_from B4.out)
      go_wp2_with fail
      refine HAL.out.mono ?_
      rintro e w5 ⟨rfl, b5⟩
      go_wp2
      go_ret
      exact ⟨rfl, b5⟩
  · go_enter Try.func5, Try.ntmps5
    go_wp2
    go_ret
    exact ⟨rfl, Below.refl _ _⟩
end Go.Proofs.Ytlgcacoggikfcaa
