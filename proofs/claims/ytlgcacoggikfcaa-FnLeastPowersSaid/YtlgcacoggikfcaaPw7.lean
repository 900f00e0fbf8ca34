/-
  What the models of PowerStep and LeastPowers answer. Condition: rows and lists can be read.
-/
import Derived.Test.YtlgcacoggikfcaaPw6
import Derived.Test.YtlgcacoggikfcaaPw4
namespace Go.Proofs.Ytlgcacoggikfcaa
open Go.RowKit

theorem stL_range {R : List (List Int)} {N T : Int} {P : List Int} {k : Nat} : (List.range (k + 1)).map (stI R N T P) = (List.range k).map (stI R N T P) ++ [stI R N T P k] := by
  rw [List.range_succ, List.map_append]; rfl
set_option maxHeartbeats 2000000 in
theorem specPowerStep_any (a v : Option Addr) (c c' : Nat) (R : List (List Int)) (N T : Int) (P : List Int) (w : World) (hr : RowsL w w.heap.size a R) (hv : Ints .i64 w w.heap.size v P) :
    Calls Try.prog 22 #[.agg #[.slice a R.length c, .int .i64 N, .int .i64 T], .slice v P.length c'] w (ListPostC (stOr R N T P) w) := by
  have HB0 := Lib.hid (lbox_new w a R.length c N T 25)
  have HB := Lib.hid (HB0.out.next (alloc_belowX (w.alloc (.cells #[.slice a R.length c, .int .i64 N, .int .i64 T] 25)) (.cells #[] 3)))
  have HVal := Lib.hid (fun b (h : decide (LkOk R N T ∧ PwOk R.length P) = b) => specOk_is a v c c' R N T P b _ (hr.next HB.out.b) (hv.next HB.out.b) h)
  have g0 := Grow.lit0 .i64 3 (w.alloc (.cells #[.slice a R.length c, .int .i64 N, .int .i64 T] 25)) (w.heap.size + 1) (by simp)
  rw [show (w.alloc (.cells #[.slice a R.length c, .int .i64 N, .int .i64 T] 25)).heap.size = w.heap.size + 1 by simp] at g0
  have G0 := Lib.hid g0
  clear g0
  have hbg := HB.out.g
  have hbn := HB.out.n
  have hbt := HB.out.t
  by_cases h1 : LkOk R N T ∧ PwOk R.length P
  · have H1 := Lib.hid (HVal.out true (decide_eq_true h1))
    have hn5 := h1.1.1.2
    have hPl := h1.2.1
    have HR := Lib.hid hr
    have HV := Lib.hid hv
    have HO := Lib.hid h1.1
    have HP := Lib.hid h1.2
    have HE := Lib.hid (stOr_yes h1.1 h1.2)
    rw [hPl] at H1 ⊢
    clear hr hv HVal h1 hPl
    go_enter Try.func22, Try.ntmps22
    go_wp2_with fail
    refine H1.out.mono ?_
    rintro e w1 ⟨rfl, b1⟩
    have B1 := Lib.hid (HB.out.next b1)
    have G1 := Lib.hid (G0.out.below b1)
    clear b1 hbg hbn hbt H1 HB HB0 G0
    go_wp2_with fail
    go_loopw [5, 6] (fun s x wr => ∃ (k : Nat) (ad : Option Addr) (cap : Nat), k ≤ R.length ∧ x = .int .i64 k ∧ s = .slice ad k cap ∧ Grow .i64 3 wr (w.heap.size + 1) ad k cap ((List.range k).map (stI R N T P)) ∧ LBox w wr w.heap.size a R.length c N T) (fun _ x _ => R.length - (intOf x).toNat)
    case atStart => exact ⟨0, _, _, Nat.zero_le _, rfl, rfl, G1.out, B1.out⟩
    case round =>
      obtain ⟨k, ad, cap, hk, rfl, rfl, hgrow, hbox⟩ := hrel
      have HG := Lib.hid hgrow
      have HB := Lib.hid hbox
      clear hgrow hbox B1 G1
      by_cases hlt : k < R.length
      · obtain ⟨b, off, rd, cp, rfl, hrow, hcp, hcm, hints⟩ := (HR.out.below HB.out.b).at_ hlt
        rw [(HO.out.2.2.2 k hlt).1] at hrow hcp
        obtain ⟨b1, off1, rfl, hb1, hc1⟩ := hints.at_ (i := k) (by rw [(HO.out.2.2.2 k hlt).1]; exact hlt)
        obtain ⟨d, hd⟩ : ∃ d, dsn R N P k R.length = d := ⟨_, rfl⟩
        have HN := Lib.hid (fun W hr hv => disturb_is (some ⟨b, off, none⟩) v c c' R N T P k d W hr hv HO.out HP.out hlt hd)
        obtain ⟨x, hx⟩ : ∃ x, T * d = x := ⟨_, rfl⟩
        have hx0 : ndI R N T P k = x := by rw [← hx, ← hd]; rfl
        have hx1 := ndI_in HO.out HP.out hlt
        have hg1 := gI_in HO.out hlt
        obtain ⟨q, hq⟩ : ∃ q, (x + 10 * el (rwI R k) k - 1) / (10 * el (rwI R k) k) = q := ⟨_, rfl⟩
        have hst := stI_is (R := R) (N := N) (T := T) (P := P) (i := k) (q := q) (by rw [hx0]; exact hq)
        obtain ⟨y, hy⟩ : ∃ y, (if q < 10000 then q else 10000) = y := ⟨_, rfl⟩
        have HS := Lib.hid (show (List.range (k + 1)).map (stI R N T P) = (List.range k).map (stI R N T P) ++ [y] by rw [stL_range, hst, hy])
        rw [hx0] at hx1
        generalize el (rwI R k) k = g at *
        generalize (List.range k).map (stI R N T P) = zs at *
        obtain ⟨u, hu⟩ : ∃ u, 10 * g = u := ⟨_, rfl⟩
        rw [hu] at hg1 hq
        have hq1 : 0 ≤ q ∧ q ≤ 600000000000 := by
          rw [← hq]
          refine ⟨Int.ediv_nonneg (by omega) (by omega), ?_⟩
          exact Int.le_trans (Int.ediv_le_self _ (by omega)) (by omega)
        have e1 : (x + u - 1).tdiv u = q := by rw [Int.tdiv_eq_ediv_of_nonneg (by omega), hq]
        have r1 := wrapS (n := u) (by omega)
        have r1' := wrapS' (n := u) (by omega)
        have r2 := wrapS (n := x + u) (by omega)
        have r2' := wrapS' (n := x + u) (by omega)
        have r3 := wrapS (n := x + u - 1) (by omega)
        have r3' := wrapS' (n := x + u - 1) (by omega)
        have r4 := wrapS (n := q) (by omega)
        have r4' := wrapS' (n := q) (by omega)
        have r5 := wrapS (n := x) (by omega)
        have r5' := wrapS' (n := x) (by omega)
        have z : (u == 0) = false := by simp; omega
        have hu0 : ¬ u = 0 := by omega
        have HY := Lib.hid hy
        have M0 : Hid (MS w wr w.heap.size (some ⟨b, off, none⟩) R.length c N T ⟨b, off + k, none⟩ ⟨b1, off1 + k, none⟩ ⟨b1, off1 + k, none⟩ (.slice (some ⟨b1, off1, none⟩) R.length cp) (.int .i64 g) (.int .i64 g)) := ⟨HB.out, hrow, hc1, hc1⟩
        have HN2 := Lib.hid (fun (X : Prop) W (h : MSC w W w.heap.size (some ⟨b, off, none⟩) R.length c N T ⟨b, off + k, none⟩ ⟨b1, off1 + k, none⟩ ⟨b1, off1 + k, none⟩ (.slice (some ⟨b1, off1, none⟩) R.length cp) (.int .i64 g) (.int .i64 g) ∧ X) =>
          HN.out W ((HR.out.below h.1.out.1.b).more h.1.out.1.b.size) ((HV.out.below h.1.out.1.b).more h.1.out.1.b.size))
        have hbg := HB.out.g
        have hbn := HB.out.n
        have hbt := HB.out.t
        have GG : Hid (∀ W, Below wr.heap.size wr W → Grow .i64 3 W (w.heap.size + 1) ad k cap zs) := fun W hb => HG.out.below hb
        clear HN hb1 hints hx0 hx1 hq1 hd hst hy hq
        go_wp2_with fail
        go_region_held3 (fun w' => (MSC w w' w.heap.size (some ⟨b, off, none⟩) R.length c N T ⟨b, off + k, none⟩ ⟨b1, off1 + k, none⟩ ⟨b1, off1 + k, none⟩ (.slice (some ⟨b1, off1, none⟩) R.length cp) (.int .i64 g) (.int .i64 g) ∧ Below wr.heap.size wr w') ∧
            w'.cell? ⟨w.heap.size, 0, none⟩ = some (.slice (some ⟨b, off, none⟩) R.length c) ∧ w'.cell? ⟨w.heap.size, 1, none⟩ = some (.int .i64 N) ∧ w'.cell? ⟨w.heap.size, 2, none⟩ = some (.int .i64 T))
          (first
            | exact MS.begin M0.out
            | exact MS.begin_next (by assumption) (by assumption)
            | fail)
          (first
            | (go_at_call 45; refine (HN2.out _ _ (And.left (by assumption))).mono ?_; rintro e w' ⟨rfl, hb⟩)
            | fail)
        all_goals
          have D2 := Lib.hid (MSC.back2 (by assumption))
          have hbg := D2.out.1.1.g
          have hrow := D2.out.1.2.1
          have hc1 := D2.out.1.2.2.1
          have hsz := D2.out.1.1.b.size
          have hlt2 := D2.out.1.1.lt
          have GW := Lib.hid (GG.out _ D2.out.2)
          by_cases h5 : q < 10000
          · obtain rfl : y = q := by rw [← HY.out, if_pos h5]
            clear HY GG HN2 M0 HG
            go_wp2_with (at_builtin; refine wpList_append1 (.tmp 37) (.tmp 45) (w.heap.size + 1) ad k cap zs ⟨w'.heap.size, 0, none⟩ y rfl rfl rfl rfl (GW.out.alloc _) (by simp) (by omega) (by simp; omega) ?_; intro a3 cap3 w3 hg3 hb3; have HG3 := Lib.hid hg3; have HB3 := Lib.hid (lbox_grown (D2.out.1.1.next (alloc_belowX _ _)) hb3); clear hg3 hb3)
            go_roundw
            case rel => exact ⟨k + 1, a3, cap3, by omega, by go_num, rfl, by rw [HS.out]; exact HG3.out, HB3.out⟩
            case measure => simp [intOf]; omega
          · obtain rfl : y = 10000 := by rw [← HY.out, if_neg h5]
            clear HY GG HN2 M0 HG
            go_wp2_with (at_builtin; refine wpList_append1 (.tmp 37) (.tmp 45) (w.heap.size + 1) ad k cap zs ⟨w'.heap.size, 0, none⟩ 10000 rfl rfl rfl rfl (GW.out.alloc _) (by simp) (by omega) (by simp; omega) ?_; intro a3 cap3 w3 hg3 hb3; have HG3 := Lib.hid hg3; have HB3 := Lib.hid (lbox_grown (D2.out.1.1.next (alloc_belowX _ _)) hb3); clear hg3 hb3)
            go_roundw
            case rel => exact ⟨k + 1, a3, cap3, by omega, by go_num, rfl, by rw [HS.out]; exact HG3.out, HB3.out⟩
            case measure => simp [intOf]; omega
      · obtain rfl : R.length = k := by omega
        go_wp2
        go_ret
        rw [HE.out]
        exact listPostC_grow' (HG.out.base_le (Nat.le_succ _)) HB.out.b
  · have H1 := Lib.hid (HVal.out false (decide_eq_false h1))
    have HE : Hid (stOr R N T P = []) := if_neg h1
    clear hr hv HVal h1
    go_enter Try.func22, Try.ntmps22
    go_wp2_with (go_at_call 44; ((with_reducible refine H1.out.mono ?_); rintro e w1 ⟨rfl, b1⟩))
    go_ret
    rw [HE.out]
    exact listPostC_grow ((G0.out.below b1).base_le (Nat.le_succ _)) (HB.out.next b1).b
end Go.Proofs.Ytlgcacoggikfcaa
