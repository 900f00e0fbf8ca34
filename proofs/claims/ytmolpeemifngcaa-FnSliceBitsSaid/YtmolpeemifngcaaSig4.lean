/-
  What TurnSamples and its model answer, for every signal and every number. Condition: the model: the length can be.
-/
import Derived.Test.YtmolpeemifngcaaSig1
import Derived.Test.YtmolpeemifngcaaSig2
namespace Go.Proofs.Ytmolpeemifngcaa
open Go.RowKit

theorem sigPost_row {ps : List Smp} {w w' : World} {b n : Nat} (hr : w'.rowIs b 36 (ps.length * 2) (smpAt ps)) (hn : n = ps.length) (hm : n ≤ maxLen) (hb : w.heap.size ≤ b) (h : Below w.heap.size w w') :
    SigPost 36 ps w (.returned (.slice (some ⟨b, 0, none⟩) n n)) w' := by
  subst hn
  exact ⟨_, _, rfl, ⟨Nat.le_refl _, hm⟩, fun _ => ⟨b, _, _, rfl, hb, hr.lt, Nat.le_refl _, hr, fun i _ => ⟨smpAt_I _ _, smpAt_Q _ _⟩⟩, h⟩
theorem map_sI {ps : List Smp} {k : Nat} (Q : Nat) (h : k < ps.length) : sI (ps.map (turnN Q)) k = (turnN Q (sp ps k)).1 ∧ sQ (ps.map (turnN Q)) k = (turnN Q (sp ps k)).2 := by
  simp [sI, sQ, sp, h]
/-- The two components after j turns, and their bounds. -/
theorem turn_step {p : Smp} (h : smpOk p = true) (j : Nat) {x y : Int} (hx : x = (turnN j p).1) (hy : y = (turnN j p).2) : (-100000 ≤ x ∧ x ≤ 100000) ∧ (-100000 ≤ y ∧ y ≤ 100000) ∧ -y = (turnN (j + 1) p).1 ∧ x = (turnN (j + 1) p).2 := by
  have h1 := turnN_ok h j
  simp only [smpOk, Bool.and_eq_true] at h1
  exact ⟨by rw [hx]; exact levOk_yes h1.1, by rw [hy]; exact levOk_yes h1.2, by rw [hy]; rfl, by rw [hx]; rfl⟩
set_option maxHeartbeats 2000000 in
theorem turnSamples_any (a : Option Addr) (c : Nat) (ps : List Smp) (q : Int) (w : World) (hx : Sigs w w.heap.size a ps) :
    Calls Try.prog 28 #[.slice a ps.length c, .int .i64 q] w (SigPost 36 (turnOr ps q) w) := by
  have HV := Lib.hid (signalValid_any a c ps w hx)
  have HX := Lib.hid hx
  clear hx
  cases hok : sigOk ps
  · rw [hok] at HV
    have HE := Lib.hid (turnOr_no (q := q) hok)
    clear hok
    go_enter Try.func28, Try.ntmps28
    go_wp2_with fail
    refine HV.out.mono ?_
    rintro e w1 ⟨rfl, b1⟩
    have B1 := Lib.hid b1
    clear b1
    go_wp2
    go_ret
    rw [HE.out]
    exact sigPost_nil B1.out
  · rw [hok] at HV
    by_cases hq0 : q < 0
    · have HE := Lib.hid (turnOr_out (ps := ps) (q := q) (by omega))
      clear hok
      go_enter Try.func28, Try.ntmps28
      go_wp2_with fail
      refine HV.out.mono ?_
      rintro e w1 ⟨rfl, b1⟩
      have B1 := Lib.hid b1
      clear b1
      go_wp2
      go_ret
      rw [HE.out]
      exact sigPost_nil B1.out
    · by_cases hq3 : 3 < q
      · have HE := Lib.hid (turnOr_out (ps := ps) (q := q) (by omega))
        clear hok
        go_enter Try.func28, Try.ntmps28
        go_wp2_with fail
        refine HV.out.mono ?_
        rintro e w1 ⟨rfl, b1⟩
        have B1 := Lib.hid b1
        clear b1
        go_wp2
        go_ret
        rw [HE.out]
        exact sigPost_nil B1.out
      · obtain ⟨Q, rfl⟩ := Int.eq_ofNat_of_zero_le (show 0 ≤ q by omega)
        have hQ : Q ≤ 3 := by omega
        have HE := Lib.hid (turnOr_yes hok hQ)
        have HO := Lib.hid hok
        have hl := sigOk_len hok
        have HL := Lib.hid hl
        obtain ⟨qs, hqs⟩ : ∃ qs, qs = ps.map (turnN Q) := ⟨_, rfl⟩
        have HQS := Lib.hid hqs
        have HQL : Hid (qs.length = ps.length) := by show qs.length = ps.length; rw [hqs, List.length_map]
        have hmk := makeSig ps.length (by omega)
        have HMK := Lib.hid hmk
        have g1 : ¬ ((Q : Int) < 0) := by omega
        have g2 : ¬ (3 < (Q : Int)) := by omega
        clear hok hl hqs hq0 hq3 hmk
        go_enter Try.func28, Try.ntmps28
        go_wp2_with fail
        refine HV.out.mono ?_
        rintro e w1 ⟨rfl, b1⟩
        have B1 := Lib.hid b1
        have HS1 := Lib.hid b1.size
        have hmk := HMK.out
        clear b1
        go_wp2
        clear hmk g1 g2
        go_loopw [24] (fun i wr => ∃ k : Nat, k ≤ ps.length ∧ i = .int .i64 k ∧ wr.rowIs w1.heap.size 36 (ps.length * 2) (setTo qs k) ∧ Below w.heap.size w wr) (fun i _ => ps.length - (intOf i).toNat)
        case atStart => exact ⟨0, Nat.zero_le _, rfl, (madeSig_row w1 _).congr (by intro j hj; simp [setTo]), B1.out.alloc HS1.out _⟩
        case round =>
          obtain ⟨k, hk, rfl, hrow, hbel⟩ := hrel
          have HR := Lib.hid hrow
          have HB := Lib.hid hbel
          have HS := Lib.hid hbel.size
          have hk2 : k ≤ 256 := Nat.le_trans hk HL.out
          clear hrow hbel
          by_cases hlt : k < ps.length
          · obtain ⟨b, off, rfl, hb, hc, hc'⟩ := (HX.out.below HB.out).at_ hlt
            have HP := Lib.hid (sigOk_all HO.out (sp_mem hlt))
            have HM := Lib.hid (map_sI Q hlt)
            rw [← HQS.out] at HM
            have HW : Hid (b < wr.heap.size) := Nat.lt_of_lt_of_le hb HS.out
            have hkb : decide ((k : Int) < (ps.length : Int)) = true := by rw [decide_eq_true_iff]; omega
            clear hb
            go_wp2
            rename World => W0
            go_loopw [30] (fun i V => ∃ (j : Nat) (x y : Int), j ≤ Q ∧ i = .int .i64 j ∧ x = (turnN j (sp ps k)).1 ∧ y = (turnN j (sp ps k)).2 ∧ V = W0.alloc (.cells #[.int .i64 x, .int .i64 y] 36)) (fun i _ => Q - (intOf i).toNat)
            case atStart => exact ⟨0, _, _, Nat.zero_le _, rfl, rfl, rfl, rfl⟩
            case round =>
              obtain ⟨j, x, y, hj, rfl, hxj, hyj, rfl⟩ := hrel
              obtain ⟨bx, by_, n1, n2⟩ := turn_step HP.out j hxj hyj
              by_cases hlj : j < Q
              · have N1 := Lib.hid n1
                have N2 := Lib.hid n2
                clear n1 n2 hxj hyj hc hc'
                go_wp2
                go_roundw
                case rel => exact ⟨j + 1, -y, x, by omega, by go_num, N1.out, N2.out, rfl⟩
                case measure => simp [intOf]; omega
              · obtain rfl : Q = j := by omega
                have R1 := HR.out.alloc (.cells #[.int .i64 x, .int .i64 y] 36)
                have hf := R1.frozen (k * 2)
                have hf' := R1.frozen (k * 2 + 1)
                have hv := R1.cell (i := k * 2) (by omega)
                have hv' := R1.cell (i := k * 2 + 1) (by omega)
                have e1 : setTo qs k (k * 2) = .int .i64 0 := by simp [setTo]
                have e2 : setTo qs k (k * 2 + 1) = .int .i64 0 := by simp [setTo, show (k * 2 + 1) / 2 = k by omega]
                rw [e1] at hv
                rw [e2] at hv'
                have H1 := Lib.hid (setTo_next R1 (hxj.trans HM.out.1.symm) (hyj.trans HM.out.2.symm) (rfl : qs = qs))
                have H2 := Lib.hid (((HB.out.alloc HS.out (.cells #[.int .i64 x, .int .i64 y] 36)).setCell (p := ⟨w1.heap.size, k * 2, none⟩) HS1.out (.int .i64 x)).setCell (p := ⟨w1.heap.size, k * 2 + 1, none⟩) HS1.out (.int .i64 y))
                clear R1 e1 e2 n1 n2 hxj hyj hc hc'
                go_wp2
                go_roundw
                case rel => exact ⟨k + 1, by omega, by go_num, H1.out, H2.out⟩
                case measure => simp [intOf]; omega
          · have H1 := Lib.hid (HR.out.congr (g := smpAt qs) (by intro j hj; simp [setTo, show j / 2 < k by omega]))
            have hkb : decide ((k : Int) < (ps.length : Int)) = false := by rw [decide_eq_false_iff_not]; omega
            go_wp2
            go_ret
            rw [HE.out, ← HQS.out]
            exact sigPost_row (by rw [HQL.out]; exact H1.out) HQL.out.symm (by have := HL.out; unfold maxLen; omega) HS1.out HB.out
set_option maxHeartbeats 2000000 in
theorem specTurnSamples_any (a : Option Addr) (c : Nat) (ps : List Smp) (q : Int) (w : World) (hx : Sigs w w.heap.size a ps) (hl0 : ps.length ≤ maxLen) :
    Calls Try.prog 31 #[.slice a ps.length c, .int .i64 q] w (SigPost 36 (turnOr ps q) w) := by
  have hal := fun o : Obj => (Below.refl w.heap.size w).alloc (Nat.le_refl _) o
  have HA := Lib.hid hal
  have HV := Lib.hid (fun o : Obj => specSignalValid_any a c w.heap.size ps (w.alloc o) (hx.below (hal o)) hl0)
  have HI := Lib.hid (fun W => l1In_any q 0 3 W)
  have HX := Lib.hid hx
  clear hx hal
  cases hok : sigOk ps
  · rw [hok] at HV
    have HE := Lib.hid (turnOr_no (q := q) hok)
    clear hok
    go_enter Try.func31, Try.ntmps31
    go_wp2_with (go_at_call 24; ((with_reducible refine (HV.out _).mono ?_); rintro e w' ⟨rfl, rfl⟩))
    go_ret
    rw [HE.out]
    exact sigPost_grow (GrowS.lit0 _ _ _ (Nat.le_refl _)) (HA.out _)
  · rw [hok] at HV
    cases hq : (decide (0 ≤ q) && decide (q ≤ 3))
    · rw [hq] at HI
      have HE : Hid (turnOr ps q = []) := turnOr_out (fun h => by simp [h.1, h.2] at hq)
      clear hok hq
      go_enter Try.func31, Try.ntmps31
      go_wp2_with (first
        | (go_at_call 24; ((with_reducible refine (HV.out _).mono ?_); rintro e w' ⟨rfl, rfl⟩))
        | (go_at_call 58; ((with_reducible refine (HI.out _).mono ?_); rintro e w' ⟨rfl, rfl⟩)))
      go_ret
      rw [HE.out]
      exact sigPost_grow (GrowS.lit0 _ _ _ (Nat.le_refl _)) (HA.out _)
    · rw [hq] at HI
      simp only [Bool.and_eq_true, decide_eq_true_eq] at hq
      obtain ⟨Q, rfl⟩ := Int.eq_ofNat_of_zero_le hq.1
      have hQ : Q ≤ 3 := by omega
      have HE := Lib.hid (turnOr_yes hok hQ)
      have HO := Lib.hid hok
      have hl := sigOk_len hok
      have HL := Lib.hid hl
      clear hok hl hq hl0
      go_enter Try.func31, Try.ntmps31
      go_wp2_with (first
        | (go_at_call 24; ((with_reducible refine (HV.out _).mono ?_); rintro e w' ⟨rfl, rfl⟩))
        | (go_at_call 58; ((with_reducible refine (HI.out _).mono ?_); rintro e w' ⟨rfl, rfl⟩)))
      go_loopw [5, 6] (fun s i wr => ∃ (k : Nat) (v : Option Addr) (cap : Nat), k ≤ ps.length ∧ i = .int .i64 k ∧ s = .slice v k cap ∧ GrowS 36 wr w.heap.size v k cap ((ps.take k).map (turnN Q)) ∧ Below w.heap.size w wr) (fun _ i _ => ps.length - (intOf i).toNat)
      case atStart => exact ⟨0, _, _, Nat.zero_le _, rfl, rfl, GrowS.lit0 _ _ _ (Nat.le_refl _), HA.out _⟩
      case round =>
        obtain ⟨k, v, cap, hk, rfl, rfl, hgr, hbel⟩ := hrel
        have HG := Lib.hid hgr
        have HB := Lib.hid hbel
        have HS := Lib.hid hbel.size
        have hk2 : k ≤ 256 := Nat.le_trans hk HL.out
        clear hgr hbel
        by_cases hlt : k < ps.length
        · obtain ⟨b, off, rfl, hb, hc, hc'⟩ := (HX.out.below HB.out).at_ hlt
          have HP := Lib.hid (sigOk_all HO.out (sp_mem hlt))
          have HT := Lib.hid (map_take_sp (turnN Q) hlt)
          have HW : Hid (b < wr.heap.size) := Nat.lt_of_lt_of_le hb HS.out
          have hkb : decide ((k : Int) < (ps.length : Int)) = true := by rw [decide_eq_true_iff]; omega
          clear hb
          go_wp2
          rename World => W0
          go_loopw [8] (fun i V => ∃ (j : Nat) (x y : Int), j ≤ Q ∧ i = .int .i64 j ∧ x = (turnN j (sp ps k)).1 ∧ y = (turnN j (sp ps k)).2 ∧ V = W0.alloc (.cells #[.int .i64 x, .int .i64 y] 36)) (fun i _ => Q - (intOf i).toNat)
          case atStart => exact ⟨0, _, _, Nat.zero_le _, rfl, rfl, rfl, rfl⟩
          case round =>
            obtain ⟨j, x, y, hj, rfl, hxj, hyj, rfl⟩ := hrel
            obtain ⟨bx, by_, n1, n2⟩ := turn_step HP.out j hxj hyj
            by_cases hlj : j < Q
            · have N1 := Lib.hid n1
              have N2 := Lib.hid n2
              clear n1 n2 hxj hyj hc hc'
              go_wp2
              go_roundw
              case rel => exact ⟨j + 1, -y, x, by omega, by go_num, N1.out, N2.out, rfl⟩
              case measure => simp [intOf]; omega
            · obtain rfl : Q = j := by omega
              have H3 : Hid ((ps.take k).map (turnN Q) ++ [(x, y)] = (ps.take (k + 1)).map (turnN Q)) := by
                show (ps.take k).map (turnN Q) ++ [(x, y)] = (ps.take (k + 1)).map (turnN Q)
                rw [HT.out, hxj, hyj]
              clear n1 n2 hxj hyj hc hc'
              go_wp2_with (refine wpList_appendSig1 (.tmp 40) (.tmp 42) w.heap.size v k cap ((ps.take k).map (turnN Q)) (W0.heap.size + 1) x y rfl rfl rfl rfl ((HG.out.alloc _).alloc _) (heap_last2 _ _ _) (by omega) (by simp; have := HS.out; omega) ?_; intro a2 cap2 w2 hg2 hb2 _; have HG2 := Lib.hid hg2; have HB2 := Lib.hid hb2; clear hg2 hb2)
              go_roundw
              case rel => exact ⟨k + 1, a2, cap2, by omega, by go_num, rfl, by rw [← H3.out]; exact HG2.out, ((HB.out.alloc HS.out _).alloc (by simp; have := HS.out; omega) _).trans HB2.out⟩
              case measure => simp [intOf]; omega
        · obtain rfl : ps.length = k := by omega
          have hkb : decide ((ps.length : Int) < (ps.length : Int)) = false := by simp
          have H1 : Hid (turnOr ps (Q : Int) = (ps.take ps.length).map (turnN Q)) := by show turnOr ps (Q : Int) = (ps.take ps.length).map (turnN Q); rw [HE.out, List.take_length]
          go_wp2
          go_ret
          rw [H1.out]
          exact sigPost_grow HG.out HB.out
end Go.Proofs.Ytmolpeemifngcaa
