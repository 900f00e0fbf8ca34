/-
  The models of CostsValid, LeastCosts and NextStation. Condition: rows that can be read; the steps: a valid table.
-/
import Derived.Test.YtnmhiagnmfpipaaRteA
import Derived.Test.YtnmhiagnmfpipaaRowF
import Derived.Test.YtnmhiagnmfpipaaAppendA
import Derived.BigQuiet
import Derived.StillTail
import Derived.StillTailTactics
namespace Go.Proofs.Ytnmhiagnmfpipaa
open Go.RowKit

set_option maxRecDepth 10000 in
theorem l1In_rt (n lo hi : Int) (b : Bool) (w : World) (h : decide (lo ≤ n ∧ n ≤ hi) = b) : Calls Try.prog 45 #[.int .i64 n, .int .i64 lo, .int .i64 hi] w fun e w' => e = .returned (.bool b) ∧ w = w' := by
  subst h
  rw [Bool.decide_and]
  exact l1In_any n lo hi w
set_option maxRecDepth 10000 in
set_option maxHeartbeats 2000000 in
theorem specCostsValid_is (a : Option Addr) (c B : Nat) (R : List (List Int)) (b : Bool) (w : World) (hr : RowsL w B a R) (hn : R.length ≤ 1048576) (hb : decide (TiOk R) = b) :
    Calls Try.prog 17 #[.slice a R.length c] w fun e w' => e = .returned (.bool b) ∧ w = w' := by
  subst hb
  have HR := Lib.hid hr
  clear hr
  go_enter Try.func17, Try.ntmps17
  go_wp2
  go_loop [4] (fun x => ∃ k : Nat, k ≤ R.length ∧ x = .int .i64 k ∧ CosTo R k) (fun x => R.length - (intOf x).toNat)
  case atStart => exact ⟨0, Nat.zero_le _, rfl, fun i hi => absurd hi (by omega)⟩
  case round =>
    obtain ⟨k, hk, rfl, hgood⟩ := hrel
    have HG := Lib.hid hgood
    clear hgood
    by_cases hlt : k < R.length
    · obtain ⟨b, off, ad, cp, rfl, hrow, _, _, hin⟩ := HR.out.at_ hlt
      have HIN := Lib.hid hin
      have hltI : (k : Int) < (R.length : Int) := by omega
      clear hin
      by_cases h4 : (rwI R k).length = R.length
      · rw [h4] at hrow
        have z4 : ((R.length : Int) != (R.length : Int)) = false := by simp
        have H4 := Lib.hid h4
        obtain ⟨b1, off1, rfl, hb1, hc1⟩ := HIN.out.at_ (i := k) (by rw [h4]; exact hlt)
        by_cases h5 : el (rwI R k) k = 0
        · have H5 := Lib.hid h5
          rw [h5] at hc1
          have z5 : ((0 : Int) != 0) = false := by decide
          have HLT := Lib.hid hlt
          clear h4 h5 hb1 hlt
          go_wp2
          clear z4 z5 hc1
          go_loop [5] (fun x => ∃ m : Nat, m ≤ R.length ∧ x = .int .i64 m ∧ CoIn m (rwI R k)) (fun x => R.length - (intOf x).toNat)
          case atStart => exact ⟨0, Nat.zero_le _, rfl, fun i hi => absurd hi (by omega)⟩
          case round =>
            obtain ⟨m, hm, rfl, hgood2⟩ := hrel
            have HG2 := Lib.hid hgood2
            clear hgood2
            by_cases hlt2 : m < R.length
            · obtain ⟨b2, off2, he2, hb2, hc2⟩ := HIN.out.at_ (i := m) (by rw [H4.out]; exact hlt2)
              injection he2 with he2
              injection he2 with he2 he3 _
              subst he2 he3
              have hlt2I : (m : Int) < (R.length : Int) := by omega
              by_cases h6 : 0 ≤ el (rwI R k) m ∧ el (rwI R k) m ≤ 100
              · have H6 := Lib.hid (fun W => l1In_rt (el (rwI R k) m) 0 100 true W (decide_eq_true h6))
                have HT := Lib.hid (coIn_next HG2.out h6)
                clear h6 hb2
                go_wp2_with (go_at_call 45; ((with_reducible refine (H6.out _).mono ?_); rintro e w1 ⟨rfl, rfl⟩))
                go_round
                case rel => exact ⟨m + 1, by omega, by go_num, HT.out⟩
                case measure => simp [intOf]; omega
              · have H6 := Lib.hid (fun W => l1In_rt (el (rwI R k) m) 0 100 false W (decide_eq_false h6))
                have HF : Hid (decide (TiOk R) = false) := decide_eq_false fun h => h6 ((h.2 k HLT.out).2.1 m hlt2)
                clear h6 hb2
                go_wp2_with (go_at_call 45; ((with_reducible refine (H6.out _).mono ?_); rintro e w1 ⟨rfl, rfl⟩))
                go_ret
                exact ⟨ret_bool HF.out.symm, rfl⟩
            · obtain rfl : R.length = m := by omega
              have HT := Lib.hid (cosTo_next HG.out ⟨H4.out, HG2.out, H5.out⟩)
              have hlt := HLT.out
              go_wp2
              go_round
              case rel => exact ⟨k + 1, by omega, by go_num, HT.out⟩
              case measure => simp [intOf]; omega
        · have HF : Hid (decide (TiOk R) = false) := decide_eq_false fun h => h5 (h.2 k hlt).2.2
          have z5 : (el (rwI R k) k != 0) = true := by simp [h5]
          generalize el (rwI R k) k = z at *
          clear h4 h5 hb1
          go_wp2
          go_ret
          exact ⟨ret_bool HF.out.symm, rfl⟩
      · have z : (((rwI R k).length : Int) != (R.length : Int)) = true := by simp; omega
        have HF : Hid (decide (TiOk R) = false) := decide_eq_false fun h => h4 (h.2 k hlt).1
        clear h4
        go_wp2
        go_ret
        exact ⟨ret_bool HF.out.symm, rfl⟩
    · obtain rfl : R.length = k := by omega
      have HF : Hid (decide ((R.length : Int) ≤ 10) = decide (TiOk R)) := by
        show _ = _
        rw [decide_eq_decide]
        exact ⟨fun h => ⟨by omega, HG.out⟩, fun h => by have := h.1; omega⟩
      go_wp2
      go_ret
      exact ⟨ret_bool HF.out, rfl⟩
/-- The list that a step leaves. -/
def stpL (R : List (List Int)) (D : Nat → Int) : List Int := ccL (fun i => rxN (tg R) D i (D i) R.length) R.length
/-- The costs while a step is under way. -/
def stpM (R : List (List Int)) (D : Nat → Int) (k m i : Nat) : Int := if i < k then rxN (tg R) D i (D i) R.length else if i = k then rxN (tg R) D k (D k) m else D i
theorem stpM_start (R : List (List Int)) (D : Nat → Int) (k i : Nat) : stpM R D k 0 i = if i < k then rxN (tg R) D i (D i) R.length else D i := by
  unfold stpM
  by_cases h : i < k
  · rw [if_pos h, if_pos h]
  · rw [if_neg h, if_neg h]
    by_cases e : i = k
    · subst e; rw [if_pos rfl]; rfl
    · rw [if_neg e]
theorem stpM_end (R : List (List Int)) (D : Nat → Int) (k i : Nat) : stpM R D k R.length i = stpM R D (k + 1) 0 i := by
  rw [stpM_start]
  unfold stpM
  by_cases h : i < k
  · rw [if_pos h, if_pos (by omega)]
  · rw [if_neg h]
    by_cases e : i = k
    · subst e; rw [if_pos rfl, if_pos (by omega)]
    · rw [if_neg e, if_neg (by omega)]
theorem stpM_at (R : List (List Int)) (D : Nat → Int) (k m : Nat) : stpM R D k m k = rxN (tg R) D k (D k) m := by
  unfold stpM
  rw [if_neg (by omega), if_pos rfl]
theorem stpM_next {R : List (List Int)} {D : Nat → Int} {k m : Nat} {v : Int} (h : rxN (tg R) D k (D k) (m + 1) = v) (i : Nat) : stpM R D k (m + 1) i = if i = k then v else stpM R D k m i := by
  unfold stpM
  by_cases e : i = k
  · subst e; rw [if_neg (by omega), if_pos rfl, if_pos rfl, h]
  · rw [if_neg e, if_neg e, if_neg e]
theorem rxN_bound {R : List (List Int)} {D : Nat → Int} (hok : TiOk R) (hd : DcOk R.length D) {k : Nat} (hk : k < R.length) : ∀ m, m ≤ R.length → rxN (tg R) D k (D k) m ≤ 1100 ∧ -1 ≤ rxN (tg R) D k (D k) m := fun m hm => by
  obtain ⟨h1, _, _⟩ := rxN_facts (tg R) D k (D k) m
  rcases h1 with h1 | ⟨j, hj, hp, h0, h1⟩
  · rw [h1]
    have h2 := hd k hk
    omega
  · rw [h1]
    have h2 := hd j (by omega)
    have h3 := tiOk_in hok hk (show j < R.length by omega)
    omega
set_option maxRecDepth 10000 in
set_option maxHeartbeats 4000000 in
theorem l18Step_any (a b : Option Addr) (c c' : Nat) (R : List (List Int)) (xs : List Int) (w : World) (hr : RowsL w w.heap.size a R) (hx : Ints .i64 w w.heap.size b xs) (hok : TiOk R) (hl : xs.length = R.length) (h0 : 0 < R.length) (hd : DcOk R.length (el xs)) :
    Calls Try.prog 69 #[.slice a R.length c, .slice b xs.length c'] w (ListPostC (stpL R (el xs)) w) := by
  obtain ⟨D, hD⟩ : ∃ D, D = el xs := ⟨_, rfl⟩
  rw [← hD] at hd ⊢
  have HDE := Lib.hid hD
  have HR := Lib.hid hr
  have HX := Lib.hid hx
  have HOK := Lib.hid hok
  have HL := Lib.hid hl
  have HD := Lib.hid hd
  have hn10 := hok.1
  obtain ⟨bx, offx, rfl, _, _⟩ := hx.at_ (i := 0) (by omega)
  have IA := Lib.hid (fun o => HX.out.below (alloc_belowX w o))
  have BA := Lib.hid (fun o => alloc_belowX w o)
  have H0 := Lib.hid h0
  clear hr hx hok hd h0
  go_enter Try.func69, Try.ntmps69
  go_wp2_with (at_builtin; refine wpList_appendA (.tmp 8) (.tmp 9) w.heap.size (some ⟨w.heap.size, 0, none⟩) (some ⟨bx, offx, none⟩) 0 0 xs.length c' w.heap.size [] xs rfl rfl rfl rfl (Grow.lit0 _ _ _ _ (Nat.le_refl _)) (IA.out _) rfl (by omega) (by simp) ?_; intro a4 cap4 w4 hg4 hb4 _; rw [Nat.zero_add, List.nil_append] at hg4; have HG4 := Lib.hid hg4; have HB4 := Lib.hid ((BA.out _).trans hb4); clear hg4 hb4)
  obtain ⟨n, hn⟩ : ∃ n, n = xs.length := ⟨_, rfl⟩
  have hnR : n = R.length := hn.trans HL.out
  have hp : 0 < n := by rw [hnR]; exact H0.out
  rw [← hn] at HG4
  obtain ⟨bo, fo, rfl, hbo, hbl, _, _, _⟩ := HG4.out.row hp
  have HRM := Lib.hid HG4.out.room
  have HRF0 := Lib.hid (HG4.out.rowF)
  have HBO := Lib.hid hbo
  have HNX := Lib.hid hn
  rw [← hnR] at hn10 ⊢
  have HN := Lib.hid hnR
  clear hn hnR hp hbo hbl HG4 hD hl IA BA
  go_loopw [6] (fun x wr => ∃ k : Nat, k ≤ n ∧ x = .int .i64 (k : Int) ∧ RowF wr bo n (stpM R D k 0) ∧ Below w.heap.size w wr) (fun x _ => n - (intOf x).toNat)
  case atStart => exact ⟨0, Nat.zero_le _, rfl, HRF0.out.congr fun i _ => by rw [stpM_start, if_neg (by omega), HDE.out], HB4.out⟩
  case round =>
    obtain ⟨k, hk, rfl, hrf, hb⟩ := hrel
    have HRF := Lib.hid hrf
    have HB := Lib.hid hb
    clear hrf hb HRF0 HB4
    by_cases hlt : k < n
    · have HLT := Lib.hid hlt
      have hltI : (k : Int) < (n : Int) := by omega
      go_wp2
      go_loopw [7] (fun x wr => ∃ m : Nat, m ≤ n ∧ x = .int .i64 (m : Int) ∧ RowF wr bo n (stpM R D k m) ∧ Below w.heap.size w wr) (fun x _ => n - (intOf x).toNat)
      case atStart => exact ⟨0, Nat.zero_le _, rfl, HRF.out, HB.out⟩
      case round =>
        obtain ⟨m, hm, rfl, hrf, hb⟩ := hrel
        have HRF2 := Lib.hid hrf
        have HB2 := Lib.hid hb
        clear hrf hb HRF HB
        by_cases hlm : m < n
        · have hlmI : (m : Int) < (n : Int) := by omega
          have HLM := Lib.hid hlm
          obtain ⟨b1, off1, ad1, cp1, rfl, hrow, _, _, hin⟩ := (HR.out.below HB2.out).at_ (i := k) (by rw [← HN.out]; exact hlt)
          rw [tiOk_row HOK.out (by rw [← HN.out]; exact hlt), ← HN.out] at hrow
          obtain ⟨b2, off2, rfl, _, hc2⟩ := hin.at_ (i := m) (by rw [tiOk_row HOK.out (by rw [← HN.out]; exact hlt), ← HN.out]; exact hlm)
          obtain ⟨b3, off3, e3, _, hc3⟩ := (HX.out.below HB2.out).at_ (i := m) (by rw [← HNX.out]; exact hlm)
          injection e3 with e3
          injection e3 with e3 e4 _
          subst e3 e4
          have hco := HRF2.out.cell hlt
          rw [stpM_at] at hco
          have hxb := rxN_bound HOK.out HD.out (k := k) (by rw [← HN.out]; exact hlt) m (by rw [← HN.out]; exact hm)
          have hgb := tiOk_in HOK.out (i := k) (j := m) (by rw [← HN.out]; exact hlt) (by rw [← HN.out]; exact hlm)
          have hdb := HD.out m (by rw [← HN.out]; exact hlm)
          have hrx : rxN (tg R) D k (D k) (m + 1) = if 0 < tg R k m ∧ 0 ≤ D m ∧ (rxN (tg R) D k (D k) m < 0 ∨ tg R k m + D m < rxN (tg R) D k (D k) m) then tg R k m + D m else rxN (tg R) D k (D k) m := rfl
          rw [← HDE.out] at hc3
          obtain ⟨G, hG⟩ : ∃ G, G = tg R k m := ⟨_, rfl⟩
          obtain ⟨d, hd⟩ : ∃ d, d = D m := ⟨_, rfl⟩
          obtain ⟨x, hx⟩ : ∃ x, x = rxN (tg R) D k (D k) m := ⟨_, rfl⟩
          rw [← hG, ← hd, ← hx] at hrx
          rw [← hx] at hco hxb
          rw [← hG] at hgb
          have hc4 : wr.cell? ⟨b2, off2 + m, none⟩ = some (.int .i64 (tg R k m)) := hc2
          rw [← hG] at hc4
          rw [← hd] at hc3 hdb
          have HX2 := Lib.hid hx
          have HST := Lib.hid hrx
          clear hin hG hd hx hrx hc2
          by_cases c1 : 0 < G
          · by_cases c2 : 0 ≤ d
            · have r1 := wrapW (n := G + d) (by omega)
              have r1' := wrapW' (n := G + d) (by omega)
              by_cases c3 : x < 0
              · have HE := Lib.hid (stpM_next (R := R) (D := D) (k := k) (m := m) (v := G + d) (by rw [HST.out, if_pos ⟨c1, c2, .inl c3⟩]))
                have fo := HRF2.out.frozen k
                clear hxb hgb hdb
                go_wp2
                go_quiet (fail)
                go_wp2
                have hrow2 : (wr.drewN nq).cell? ⟨b1, off1 + k, none⟩ = some (.slice (some ⟨b2, off2, none⟩) n cp1) := hrow
                have hc42 : (wr.drewN nq).cell? ⟨b2, off2 + m, none⟩ = some (.int .i64 G) := hc4
                have hc32 : (wr.drewN nq).cell? ⟨bx, offx + m, none⟩ = some (.int .i64 d) := hc3
                have hco2 : (wr.drewN nq).cell? ⟨bo, k, none⟩ = some (.int .i64 x) := hco
                have fo2 : (wr.drewN nq).frozen? ⟨bo, k, none⟩ = false := fo
                have HRF3 : Hid (RowF (wr.drewN nq) bo n (stpM R D k m)) := HRF2.out
                have HB3 : Hid (Below w.heap.size w (wr.drewN nq)) := below_drewN HB2.out nq
                clear hrow hc4 hc3 hco fo HB2 HRF2
                generalize wr.drewN nq = wq at *
                (refine wp_region_still_tail 15 (by kernel_rfl) (by kernel_rfl) ?_
                 simp only [List.take_succ_cons, List.take_zero, List.drop_succ_cons, List.drop_zero]
                 repeat still_step)
                refine wpStill_nil ?_
                change wpList _ _ _ _ _ (World.drew _)
                go_wp2
                go_roundw
                case rel => exact ⟨m + 1, by have := HLM.out; omega, by go_num, (HRF3.out.put (k := k) (v := G + d) (fun i _ => HE.out i)).of_block rfl, below_drewN (HB3.out.setCell (p := ⟨bo, k, none⟩) HBO.out (.int .i64 (G + d))) _⟩
                case measure => have := HLM.out; simp [intOf]; omega
              · have d3 : decide (x < 0) = false := decide_eq_false c3
                by_cases c4 : G + d < x
                · have HE := Lib.hid (stpM_next (R := R) (D := D) (k := k) (m := m) (v := G + d) (by rw [HST.out, if_pos ⟨c1, c2, .inr c4⟩]))
                  have fo := HRF2.out.frozen k
                  clear hxb hgb hdb
                  go_wp2
                  go_quiet (fail)
                  go_wp2
                  have hrow2 : (wr.drewN nq).cell? ⟨b1, off1 + k, none⟩ = some (.slice (some ⟨b2, off2, none⟩) n cp1) := hrow
                  have hc42 : (wr.drewN nq).cell? ⟨b2, off2 + m, none⟩ = some (.int .i64 G) := hc4
                  have hc32 : (wr.drewN nq).cell? ⟨bx, offx + m, none⟩ = some (.int .i64 d) := hc3
                  have hco2 : (wr.drewN nq).cell? ⟨bo, k, none⟩ = some (.int .i64 x) := hco
                  have fo2 : (wr.drewN nq).frozen? ⟨bo, k, none⟩ = false := fo
                  have HRF3 : Hid (RowF (wr.drewN nq) bo n (stpM R D k m)) := HRF2.out
                  have HB3 : Hid (Below w.heap.size w (wr.drewN nq)) := below_drewN HB2.out nq
                  clear hrow hc4 hc3 hco fo HB2 HRF2
                  generalize wr.drewN nq = wq at *
                  (refine wp_region_still_tail 15 (by kernel_rfl) (by kernel_rfl) ?_
                   simp only [List.take_succ_cons, List.take_zero, List.drop_succ_cons, List.drop_zero]
                   repeat still_step)
                  refine wpStill_nil ?_
                  change wpList _ _ _ _ _ (World.drew _)
                  go_wp2
                  go_roundw
                  case rel => exact ⟨m + 1, by have := HLM.out; omega, by go_num, (HRF3.out.put (k := k) (v := G + d) (fun i _ => HE.out i)).of_block rfl, below_drewN (HB3.out.setCell (p := ⟨bo, k, none⟩) HBO.out (.int .i64 (G + d))) _⟩
                  case measure => have := HLM.out; simp [intOf]; omega
                · skip
                  have HE : Hid (∀ i, stpM R D k (m + 1) i = stpM R D k m i) := fun i => by
                    rw [stpM_next (v := x) (by rw [HST.out, if_neg (fun h => by rcases h.2.2 with h1 | h1; exact c3 h1; exact c4 h1)]) i]
                    by_cases e : i = k
                    · rw [if_pos e, e, stpM_at, HX2.out]
                    · rw [if_neg e]
                  have d4 : decide (G + d < x) = false := decide_eq_false c4
                  clear hxb hgb hdb
                  go_wp2
                  go_quiet (fail)
                  go_wp2
                  go_roundw
                  case rel => exact ⟨m + 1, by have := HLM.out; omega, by go_num, (HRF2.out.of_block rfl).congr fun i _ => (HE.out i).symm, below_drewN HB2.out _⟩
                  case measure => have := HLM.out; simp [intOf]; omega
            · skip
              have HE : Hid (∀ i, stpM R D k (m + 1) i = stpM R D k m i) := fun i => by
                rw [stpM_next (v := x) (by rw [HST.out, if_neg (fun h => c2 h.2.1)]) i]
                by_cases e : i = k
                · rw [if_pos e, e, stpM_at, HX2.out]
                · rw [if_neg e]
              have d2 : decide (0 ≤ d) = false := decide_eq_false c2
              clear hxb hgb hdb
              go_wp2
              go_quiet (fail)
              go_wp2
              go_roundw
              case rel => exact ⟨m + 1, by have := HLM.out; omega, by go_num, (HRF2.out.of_block rfl).congr fun i _ => (HE.out i).symm, below_drewN HB2.out _⟩
              case measure => have := HLM.out; simp [intOf]; omega
          · have HE : Hid (∀ i, stpM R D k (m + 1) i = stpM R D k m i) := fun i => by
              rw [stpM_next (v := x) (by rw [HST.out, if_neg (fun h => c1 h.1)]) i]
              by_cases e : i = k
              · rw [if_pos e, e, stpM_at, HX2.out]
              · rw [if_neg e]
            have d1 : decide (0 < G) = false := decide_eq_false c1
            clear hxb hgb hdb
            go_wp2
            go_quiet (fail)
            go_wp2
            go_roundw
            case rel => exact ⟨m + 1, by have := HLM.out; omega, by go_num, (HRF2.out.of_block rfl).congr fun i _ => (HE.out i).symm, below_drewN HB2.out _⟩
            case measure => have := HLM.out; simp [intOf]; omega
        · obtain rfl : n = m := by omega
          go_wp2
          go_roundw
          case rel => exact ⟨k + 1, by have := HLT.out; omega, by go_num, HRF2.out.congr fun i _ => by rw [HN.out]; exact stpM_end R D k i, HB2.out⟩
          case measure => have := HLT.out; simp [intOf]; omega
    · obtain rfl : n = k := by omega
      go_wp2
      go_ret
      have hl : (stpL R D).length = n := by rw [HN.out]; exact ccL_len _ _
      obtain ⟨cp, gf, h1, h2, h3⟩ := HRF.out
      refine ⟨some ⟨bo, 0, none⟩, cap4, by rw [hl]; rfl, ⟨by rw [hl]; exact HRM.out.1, HRM.out.2⟩, fun _ => ⟨bo, cp, rfl, HBO.out, by rw [hl]; exact h1, gf, h2, fun i hi => ?_⟩, HB.out⟩
      rw [hl] at hi
      rw [h3 i hi, stpM_start, if_pos hi]
      unfold stpL
      rw [ccL_el (by rw [← HN.out]; exact hi)]

theorem rxN_congr {g : Nat → Nat → Int} {D D' : Nat → Int} {i : Nat} {x : Int} : ∀ {m : Nat}, (∀ j, j < m → D j = D' j) → rxN g D i x m = rxN g D' i x m
  | 0, _ => rfl
  | m + 1, h => by
    have ih := rxN_congr (g := g) (i := i) (x := x) (m := m) fun j hj => h j (by omega)
    rw [rxN, rxN, ih, h m (by omega)]
theorem stpL_it (R : List (List Int)) (to k : Nat) : stpL R (el (ccL (itD (tg R) R.length to k) R.length)) = ccL (itD (tg R) R.length to (k + 1)) R.length := by
  unfold stpL
  refine ccL_congr fun i hi => ?_
  rw [ccL_el hi]
  exact rxN_congr fun j hj => ccL_el hj
theorem itD_ok {R : List (List Int)} {to k : Nat} (h : TiOk R) (hk : k ≤ R.length) : DcOk R.length (el (ccL (itD (tg R) R.length to k) R.length)) := fun j hj => by
  rw [ccL_el hj]
  have hb := bfK (tg R) R.length to k
  refine ⟨hb.none_ j hj, ?_⟩
  by_cases h0 : 0 ≤ itD (tg R) R.length to k j
  · obtain ⟨m, hm, hw⟩ := hb.way j hj h0
    have h1 := hw.most (M := 100) (fun a b ha hb => (tiOk_in h ha hb).2) hj
    have := h.1
    omega
  · omega
theorem itD_0 (R : List (List Int)) (to : Nat) {i : Nat} : itD (tg R) R.length to 0 i = if i = to then 0 else -1 := rfl
theorem ownInts_base {w : World} {B B' t : Nat} {k : IntKind} {a : Option Addr} {xs : List Int} (h : OwnInts k t w B a xs) (hB : B' ≤ B) : OwnInts k t w B' a xs := fun hne => by
  obtain ⟨b, c, e, h1, h2⟩ := h hne
  exact ⟨b, c, e, Nat.le_trans hB h1, h2⟩
set_option maxRecDepth 10000 in
set_option maxHeartbeats 4000000 in
theorem l18Costs_any (a : Option Addr) (c : Nat) (R : List (List Int)) (to : Nat) (w : World) (hr : RowsL w w.heap.size a R) (hok : TiOk R) (hto : to < R.length) :
    Calls Try.prog 50 #[.slice a R.length c, .int .i64 (to : Int)] w (ListPostC (lcL R to) w) := by
  have HR := Lib.hid hr
  have HOK := Lib.hid hok
  have HTO := Lib.hid hto
  have hn10 := hok.1
  have htoI : (to : Int) < (R.length : Int) := by omega
  have HB0 := Lib.hid (alloc_belowX w (.cells #[] 3))
  clear hr hok hto
  obtain ⟨n, hn⟩ : ∃ n, n = R.length := ⟨_, rfl⟩
  have HN := Lib.hid hn
  rw [← hn] at hn10 htoI ⊢
  clear hn
  go_enter Try.func50, Try.ntmps50
  go_wp2
  go_loopw [5, 6] (fun s x wr => ∃ (k : Nat) (a' : Option Addr) (cap' : Nat), k ≤ n ∧ x = .int .i64 (k : Int) ∧ s = .slice a' k cap' ∧ Grow .i64 3 wr w.heap.size a' k cap' (List.replicate k (-1)) ∧ Below w.heap.size w wr) (fun _ x _ => n - (intOf x).toNat)
  case atStart => exact ⟨0, _, _, Nat.zero_le _, rfl, rfl, Grow.lit0 _ _ _ _ (Nat.le_refl _), HB0.out⟩
  case round =>
    obtain ⟨k, a', cap', hk, rfl, rfl, hg, hb⟩ := hrel
    have HG := Lib.hid hg
    have HB := Lib.hid hb
    clear hg hb HB0
    by_cases hlt : k < n
    · have hltI : (k : Int) < (n : Int) := by omega
      have HLT := Lib.hid hlt
      have HG3 := Lib.hid (HG.out.alloc (.cells #[.int .i64 (-1)] 3))
      have HB3 := Lib.hid (HB.out.alloc HB.out.size (.cells #[.int .i64 (-1)] 3))
      have HC3 := Lib.hid (cell_of_row _ _ 0 _ _ _ (heap_alloc_last wr (.cells #[.int .i64 (-1)] 3)))
      have HS3 := Lib.hid (Nat.le_trans HB.out.size (alloc_belowX wr (.cells #[.int .i64 (-1)] 3)).size)
      go_wp2_with (at_builtin; refine wpList_append1 (.tmp 15) (.tmp 16) w.heap.size a' k cap' (List.replicate k (-1)) ⟨wr.heap.size, 0, none⟩ (-1) rfl rfl rfl rfl HG3.out HC3.out (by omega) HS3.out ?_; intro a4 cap4 w4 hg4 hb4; have HG4 := Lib.hid hg4; have HB4 := Lib.hid (HB3.out.trans hb4); clear hg4 hb4)
      go_roundw
      case rel => exact ⟨k + 1, a4, cap4, by have := HLT.out; omega, by go_num, rfl, by rw [List.replicate_succ']; exact HG4.out, HB4.out⟩
      case measure => have := HLT.out; simp [intOf]; omega
    · obtain rfl : n = k := by omega
      have hp : 0 < n := by have := HTO.out; have := HN.out; omega
      have hto : to < n := by rw [HN.out]; exact HTO.out
      obtain ⟨bo, fo, rfl, hbo, hbl, _, _, _⟩ := HG.out.row hp
      have HRF := Lib.hid HG.out.rowF
      have hci := HRF.out.cell hto
      have hfi := HRF.out.frozen to
      have HRM := Lib.hid HG.out.room
      have HRF2 := Lib.hid (HRF.out.put (k := to) (v := 0) (h := itD (tg R) R.length to 0) (fun i hi => by rw [itD_0]; by_cases e : i = to <;> simp [e, el, hi]))
      have HB2 := Lib.hid (HB.out.setCell (p := ⟨bo, to, none⟩) hbo (.int .i64 0))
      have HBO := Lib.hid hbo
      have HLE : Hid ((ccL (itD (tg R) R.length to 0) R.length).length = n) := by
        show _ = n
        rw [ccL_len, HN.out]
      clear hbo hbl hp hto hlt
      go_wp2
      generalize wr.setCell ⟨bo, to, none⟩ (.int .i64 0) = U at *
      clear hci hfi
      go_loopw [5, 7] (fun s x wq => ∃ (k : Nat) (b' : Option Addr) (cap : Nat), k ≤ n ∧ x = .int .i64 (k : Int) ∧ s = .slice b' n cap ∧ (n ≤ cap ∧ cap ≤ maxLen) ∧ OwnInts .i64 3 wq w.heap.size b' (ccL (itD (tg R) R.length to k) R.length) ∧ Below w.heap.size w wq) (fun _ x _ => n - (intOf x).toNat)
      case atStart =>
        obtain ⟨cp, gf, h1, h2, h3⟩ := HRF2.out
        refine ⟨0, some ⟨bo, 0, none⟩, _, Nat.zero_le _, rfl, rfl, HRM.out, fun _ => ⟨bo, cp, rfl, HBO.out, by rw [HLE.out]; exact h1, gf, h2, fun i hi => ?_⟩, HB2.out⟩
        rw [HLE.out] at hi
        rw [h3 i hi, ccL_el (by rw [← HN.out]; exact hi)]
      case round =>
        obtain ⟨k, b', cap, hk, rfl, rfl, hcp, ho, hb⟩ := hrel
        have HO := Lib.hid ho
        have HB5 := Lib.hid hb
        have HCP := Lib.hid hcp
        clear ho hb hcp
        by_cases hlt : k < n
        · have hltI : (k : Int) < (n : Int) := by omega
          have HLT := Lib.hid hlt
          have HST := Lib.hid (l18Step_any a b' c cap R (ccL (itD (tg R) R.length to k) R.length) wr ((HR.out.below HB5.out).more HB5.out.size) (own_of_list HO.out).ints HOK.out (ccL_len _ _) (by have := HTO.out; omega) (itD_ok HOK.out (by rw [← HN.out]; exact hk)))
          rw [stpL_it, ccL_len, ← HN.out] at HST
          have HE1 : Hid ((ccL (itD (tg R) n to (k + 1)) n).length = n) := ccL_len _ _
          clear hlt
          go_wp2_with (go_at_call 69; ((with_reducible refine HST.out.mono ?_); rintro e w6 ⟨g0, cg0, rfl, hl6, o6, b6⟩; rw [HE1.out] at hl6 ⊢; have L6 := Lib.hid hl6; have O6 := Lib.hid (ownInts_base o6 HB5.out.size); have B6 := Lib.hid (Below.next HB5.out (Nat.le_refl _) b6); clear hl6 o6 b6))
          go_roundw
          case rel => exact ⟨k + 1, g0, cg0, by have := HLT.out; omega, by go_num, rfl, L6.out, by rw [← HN.out]; exact O6.out, B6.out⟩
          case measure => have := HLT.out; simp [intOf]; omega
        · obtain rfl : n = k := by omega
          go_wp2
          go_ret
          refine ⟨b', cap, ?_, ?_, ?_, HB5.out⟩
          · rw [lcL_len, ← HN.out]; rfl
          · rw [lcL_len, ← HN.out]; exact HCP.out
          · have h := HO.out
            rw [HN.out] at h
            exact h
set_option maxRecDepth 10000 in
set_option maxHeartbeats 1000000 in
theorem specLeastCosts_any (a : Option Addr) (c : Nat) (R : List (List Int)) (t : Int) (w : World) (hr : RowsL w w.heap.size a R) (hn : R.length ≤ 1048576) :
    Calls Try.prog 22 #[.slice a R.length c, .int .i64 t] w (ListPostC (lsOr R t) w) := by
  have r1 := wrapW (n := (R.length : Int) - 1) (by omega)
  have r1' := wrapW' (n := (R.length : Int) - 1) (by omega)
  have HB0 := Lib.hid (alloc_belowX w (.cells #[] 3))
  by_cases h : LsOk R t
  · obtain ⟨to, rfl, hto, hok⟩ := lsOk_cases h
    rw [lsOr_yes hok hto]
    have H1 := Lib.hid (specCostsValid_is a c w.heap.size R true w hr hn (decide_eq_true hok))
    have H2 := Lib.hid (fun W => l1In_rt (to : Int) 0 ((R.length : Int) - 1) true W (decide_eq_true h.2))
    have H3 := Lib.hid (l18Costs_any a c R to w hr hok hto)
    clear h hto hok hr
    go_enter Try.func22, Try.ntmps22
    go_wp2_with (first | (go_at_call 17; ((with_reducible refine H1.out.mono ?_); rintro e w1 ⟨rfl, rfl⟩)) | (go_at_call 45; ((with_reducible refine (H2.out _).mono ?_); rintro e w1 ⟨rfl, rfl⟩)) | (go_at_call 50; ((with_reducible refine H3.out.mono ?_); rintro e w1 ⟨g0, cg0, rfl, hl, o2, b2⟩; have HP := Lib.hid (And.intro hl (And.intro o2 b2)); clear hl o2 b2)))
    go_ret
    exact ⟨g0, cg0, rfl, HP.out⟩
  · rw [lsOr_no h]
    by_cases hok : TiOk R
    · have H1 := Lib.hid (specCostsValid_is a c w.heap.size R true w hr hn (decide_eq_true hok))
      have H2 := Lib.hid (fun W => l1In_rt t 0 ((R.length : Int) - 1) false W (decide_eq_false fun h2 => h ⟨hok, h2⟩))
      clear h hok hr
      go_enter Try.func22, Try.ntmps22
      go_wp2_with (first | (go_at_call 17; ((with_reducible refine H1.out.mono ?_); rintro e w1 ⟨rfl, rfl⟩)) | (go_at_call 45; ((with_reducible refine (H2.out _).mono ?_); rintro e w1 ⟨rfl, rfl⟩)))
      go_ret
      exact listPostC_grow (Grow.lit0 _ _ _ _ (Nat.le_refl _)) HB0.out
    · have H1 := Lib.hid (specCostsValid_is a c w.heap.size R false w hr hn (decide_eq_false hok))
      clear h hok hr
      go_enter Try.func22, Try.ntmps22
      go_wp2_with (go_at_call 17; ((with_reducible refine H1.out.mono ?_); rintro e w1 ⟨rfl, rfl⟩))
      go_ret
      exact listPostC_grow (Grow.lit0 _ _ _ _ (Nat.le_refl _)) HB0.out

theorem nxI_same {R : List (List Int)} {i : Nat} (hi : i < R.length) : nxI R i i = -1 := by
  unfold nxI
  rw [((lcL_is R i).next_ex hi hi).2 (.inl rfl)]
  rfl
set_option maxRecDepth 10000 in
set_option maxHeartbeats 4000000 in
theorem specNextStation_any (a : Option Addr) (c : Nat) (R : List (List Int)) (f t : Int) (w : World) (hr : RowsL w w.heap.size a R) (hn : R.length ≤ 1048576) :
    Calls Try.prog 25 #[.slice a R.length c, .int .i64 f, .int .i64 t] w fun e w' => e = .returned (.int .i64 (nxOr R f t)) ∧ Below w.heap.size w w' := by
  have r1 := wrapW (n := (R.length : Int) - 1) (by omega)
  have r1' := wrapW' (n := (R.length : Int) - 1) (by omega)
  by_cases hok : TiOk R
  · have H1 := Lib.hid (specCostsValid_is a c w.heap.size R true w hr hn (decide_eq_true hok))
    by_cases ht : StOk R.length t
    · have H2 := Lib.hid (fun W => l1In_rt t 0 ((R.length : Int) - 1) true W (decide_eq_true ht))
      by_cases hf : StOk R.length f
      · have H3 := Lib.hid (fun W => l1In_rt f 0 ((R.length : Int) - 1) true W (decide_eq_true hf))
        obtain ⟨to, rfl, hto⟩ := stOk_nat ht
        obtain ⟨i, rfl, hi⟩ := stOk_nat hf
        rw [nxOr_yes hok hi hto]
        by_cases he : i = to
        · subst he
          rw [nxI_same hi]
          have z : ((i : Int) == (i : Int)) = true := by simp
          clear hi hto hf ht hok hr
          go_enter Try.func25, Try.ntmps25
          go_wp2_with (first | (go_at_call 17; ((with_reducible refine H1.out.mono ?_); rintro e w1 ⟨rfl, rfl⟩)) | (go_at_call 45; ((with_reducible refine (H2.out _).mono ?_); rintro e w1 ⟨rfl, rfl⟩)))
          go_ret
          exact ⟨rfl, Below.refl _ _⟩
        · have hne : ((i : Int) == (to : Int)) = false := by simp; omega
          have hneI : ¬ (i : Int) = (to : Int) := by omega
          have H4 := Lib.hid (l18Costs_any a c R to w hr hok hto)
          have HR := Lib.hid hr
          have HOK := Lib.hid hok
          have HD := Lib.hid (lcL_ok (to := to) hok)
          have HLL := Lib.hid (lcL_len R to)
          have hn10 := hok.1
          have hiI : (i : Int) < (R.length : Int) := by omega
          have HI := Lib.hid hi
          obtain ⟨xs, hxs⟩ : ∃ xs, xs = lcL R to := ⟨_, rfl⟩
          rw [← hxs] at H4 HD HLL
          have HXS : Hid (nxI R i to = nxV (nxS (tg R) (el xs) i R.length)) := by
            show _ = _
            rw [hxs]; rfl
          rw [HXS.out]
          obtain ⟨n, hn⟩ : ∃ n, n = R.length := ⟨_, rfl⟩
          have HN := Lib.hid hn
          rw [← hn] at hn10 hiI r1 r1' H2 H3 HLL H1 ⊢
          clear hi hto hf ht hok hr hxs he hn HXS
          go_enter Try.func25, Try.ntmps25
          go_wp2_with (first | (go_at_call 17; ((with_reducible refine H1.out.mono ?_); rintro e w1 ⟨rfl, rfl⟩)) | (go_at_call 45; first | ((with_reducible refine (H2.out _).mono ?_); rintro e w1 ⟨rfl, rfl⟩) | ((with_reducible refine (H3.out _).mono ?_); rintro e w1 ⟨rfl, rfl⟩)) | (go_at_call 50; (rw [← HN.out] at H4); ((with_reducible refine H4.out.mono ?_); rintro e w2 ⟨g0, cg0, rfl, hl, o2, b2⟩; rw [HLL.out]; have G2 := Lib.hid (own_of_list o2).ints; have R2 := Lib.hid (HR.out.below b2); have B2 := Lib.hid b2; clear hl o2 b2)))
          obtain ⟨b1, off1, ad, cp, rfl, hrow, _, _, hin⟩ := R2.out.at_ HI.out
          obtain ⟨b2, off2, rfl, hb2, hc2⟩ := G2.out (by intro e; have h := HLL.out; rw [e] at h; simp at h; omega)
          have hll := tiOk_row HOK.out HI.out
          rw [hll, ← HN.out] at hrow
          have HII := Lib.hid (fun j (hj : j < n) => show ∃ b3 off3, ad = some ⟨b3, off3, none⟩ ∧ w2.cell? ⟨b3, off3 + j, none⟩ = some (.int .i64 (tg R i j)) from by
            obtain ⟨b3, off3, e, _, h⟩ := hin.at_ (i := j) (by rw [hll, ← HN.out]; exact hj)
            exact ⟨b3, off3, e, h⟩)
          have HC := Lib.hid (fun j (hj : j < n) => hc2 j (by rw [HLL.out]; exact hj))
          have HG := Lib.hid (fun j (hj : j < n) => tiOk_in HOK.out (i := i) (j := j) HI.out (by rw [← HN.out]; exact hj))
          have hci := hc2 i (by rw [HLL.out, HN.out]; exact HI.out)
          clear hin hc2 hb2 hll r1 r1'
          go_loopw [8] (fun x wr => ∃ j q : Nat, j ≤ n ∧ x = .int .i64 (j : Int) ∧ wr = w2.drewN q ∧ ∀ k, k < j → ¬ Hit (tg R) (el xs) i k) (fun x _ => n - (intOf x).toNat)
          case atStart => exact ⟨0, 0, Nat.zero_le _, rfl, rfl, fun k hk => absurd hk (by omega)⟩
          case round =>
            obtain ⟨j, q, hj, rfl, rfl, hno⟩ := hrel
            have HNO := Lib.hid hno
            clear hno
            by_cases hlt : j < n
            · obtain ⟨b3, off3, rfl, hcj⟩ := HII.out j hlt
              have hdj := HC.out j hlt
              have hgj := HG.out j hlt
              have hD := HD.out j (by rw [← HN.out]; exact hlt)
              have hltI : (j : Int) < (n : Int) := by omega
              have HLT := Lib.hid hlt
              obtain ⟨G, hG⟩ : ∃ G, G = tg R i j := ⟨_, rfl⟩
              obtain ⟨Dj, hDj⟩ : ∃ Dj, Dj = el xs j := ⟨_, rfl⟩
              obtain ⟨Di, hDi⟩ : ∃ Di, Di = el xs i := ⟨_, rfl⟩
              have HH : Hid (Hit (tg R) (el xs) i j ↔ (0 < G ∧ 0 ≤ Dj ∧ G + Dj = Di)) := by
                show _ ↔ _
                rw [hG, hDj, hDi]; exact Iff.rfl
              rw [← hG] at hcj hgj
              rw [← hDj] at hdj hD
              rw [← hDi] at hci
              clear hG hDj hDi hlt
              by_cases h1 : 0 < G
              · have h1d : (decide (0 < G)) = true := decide_eq_true h1
                by_cases h2 : 0 ≤ Dj
                · have h2d : decide (0 ≤ Dj) = true := decide_eq_true h2
                  have r1 := wrapW (n := G + Dj) (by have := hD.2; omega)
                  have r1' := wrapW' (n := G + Dj) (by have := hD.2; omega)
                  by_cases h3 : G + Dj = Di
                  · have h3d : (G + Dj == Di) = true := by simp [h3]
                    have HE : Hid (nxS (tg R) (el xs) i n = some j) := nxS_at HLT.out (HH.out.2 ⟨h1, h2, h3⟩) HNO.out
                    clear hD hgj h3
                    go_wp2
                    go_quiet (fail)
                    go_wp2
                    go_ret
                    rw [HE.out]
                    exact ⟨rfl, below_drewN (below_drewN B2.out q) _⟩
                  · have h3d : (G + Dj == Di) = false := by simp [h3]
                    have HNN : Hid (∀ k, k < j + 1 → ¬ Hit (tg R) (el xs) i k) := fun k hk hh => by
                      rcases Nat.lt_succ_iff_lt_or_eq.1 hk with h4 | rfl
                      · exact HNO.out k h4 hh
                      · exact h3 (HH.out.1 hh).2.2
                    clear hD hgj h3
                    go_wp2
                    go_quiet (fail)
                    go_wp2
                    go_roundw
                    case rel => exact ⟨j + 1, _, by have := HLT.out; omega, by go_num, rfl, HNN.out⟩
                    case measure => have := HLT.out; simp [intOf]; omega
                · have h2d : decide (0 ≤ Dj) = false := decide_eq_false h2
                  have HNN : Hid (∀ k, k < j + 1 → ¬ Hit (tg R) (el xs) i k) := fun k hk hh => by
                    rcases Nat.lt_succ_iff_lt_or_eq.1 hk with h3 | rfl
                    · exact HNO.out k h3 hh
                    · exact h2 (HH.out.1 hh).2.1
                  clear hD hgj
                  go_wp2
                  go_quiet (fail)
                  go_wp2
                  go_roundw
                  case rel => exact ⟨j + 1, _, by have := HLT.out; omega, by go_num, rfl, HNN.out⟩
                  case measure => have := HLT.out; simp [intOf]; omega
              · have HNN : Hid (∀ k, k < j + 1 → ¬ Hit (tg R) (el xs) i k) := fun k hk hh => by
                  rcases Nat.lt_succ_iff_lt_or_eq.1 hk with h4 | rfl
                  · exact HNO.out k h4 hh
                  · exact h1 (HH.out.1 hh).1
                have h1d : (decide (0 < G)) = false := decide_eq_false h1
                clear hD hgj
                go_wp2
                go_quiet (fail)
                go_wp2
                go_roundw
                case rel => exact ⟨j + 1, _, by have := HLT.out; omega, by go_num, rfl, HNN.out⟩
                case measure => have := HLT.out; simp [intOf]; omega
            · obtain rfl : n = j := by omega
              go_wp2
              go_ret
              rw [nxS_no HNO.out]
              exact ⟨rfl, below_drewN B2.out q⟩
      · have H3 := Lib.hid (fun W => l1In_rt f 0 ((R.length : Int) - 1) false W (decide_eq_false hf))
        rw [nxOr_no fun h => hf h.2.1]
        clear hf ht hok hr
        go_enter Try.func25, Try.ntmps25
        go_wp2_with (first | (go_at_call 17; ((with_reducible refine H1.out.mono ?_); rintro e w1 ⟨rfl, rfl⟩)) | (go_at_call 45; first | ((with_reducible refine (H2.out _).mono ?_); rintro e w1 ⟨rfl, rfl⟩) | ((with_reducible refine (H3.out _).mono ?_); rintro e w1 ⟨rfl, rfl⟩)))
        go_ret
        exact ⟨rfl, Below.refl _ _⟩
    · have H2 := Lib.hid (fun W => l1In_rt t 0 ((R.length : Int) - 1) false W (decide_eq_false ht))
      rw [nxOr_no fun h => ht h.2.2]
      clear ht hok hr
      go_enter Try.func25, Try.ntmps25
      go_wp2_with (first | (go_at_call 17; ((with_reducible refine H1.out.mono ?_); rintro e w1 ⟨rfl, rfl⟩)) | (go_at_call 45; ((with_reducible refine (H2.out _).mono ?_); rintro e w1 ⟨rfl, rfl⟩)))
      go_ret
      exact ⟨rfl, Below.refl _ _⟩
  · have H1 := Lib.hid (specCostsValid_is a c w.heap.size R false w hr hn (decide_eq_false hok))
    rw [nxOr_no fun h => hok h.1]
    clear hok hr
    go_enter Try.func25, Try.ntmps25
    go_wp2_with (go_at_call 17; ((with_reducible refine H1.out.mono ?_); rintro e w1 ⟨rfl, rfl⟩))
    go_ret
    exact ⟨rfl, Below.refl _ _⟩
end Go.Proofs.Ytnmhiagnmfpipaa
