/-
  What the models of LinksMeet, PowerStep and their parts answer. Conditions: rows and lists can be read; the disturbance: valid links, as many powers.
-/
import Derived.Test.YtlgcacoggikfcaaPw5
import Derived.Deep.RegionHeld3
namespace Go.Proofs.Ytlgcacoggikfcaa
open Go.RowKit

set_option maxHeartbeats 1000000 in
theorem disturb_is (a v : Option Addr) (c c' : Nat) (R : List (List Int)) (N T : Int) (P : List Int) (i : Nat) (d : Int) (w : World) (hr : RowsL w w.heap.size a R) (hv : Ints .i64 w w.heap.size v P)
    (hok : LkOk R N T) (hp : PwOk R.length P) (hi : i < R.length) (hd : dsn R N P i R.length = d) :
    Calls Try.prog 45 #[.agg #[.slice a R.length c, .int .i64 N, .int .i64 T], .slice v R.length c', .int .i64 (i : Int)] w fun e w' => e = .returned (.int .i64 d) ∧ Below w.heap.size w w' := by
  have HB := Lib.hid (lbox_new w a R.length c N T 25)
  have HV : Hid (Ints .i64 (w.alloc (.cells #[.slice a R.length c, .int .i64 N, .int .i64 T] 25)) w.heap.size v P) := hv.below HB.out.b
  have HO := Lib.hid hok
  have HP := Lib.hid hp
  have HD := Lib.hid hd
  have hn5 := hok.1.2
  obtain ⟨b, off, ad, cp, rfl, hrow, hcp, hcm, hints⟩ := (hr.below HB.out.b).at_ hi
  rw [(hok.2.2.2 i hi).1] at hrow hcp
  have HI := Lib.hid hints
  have HL := Lib.hid (hok.2.2.2 i hi).1
  have HPl := Lib.hid hp.1
  clear hr hv hok hp hd hints
  go_enter Try.func45, Try.ntmps45
  have hbg := HB.out.g
  have hbn := HB.out.n
  have hbt := HB.out.t
  go_wp2
  generalize w.alloc (.cells #[.slice (some ⟨b, off, none⟩) R.length c, .int .i64 N, .int .i64 T] 25) = W at *
  go_loopw [7, 8] (fun s x wr => ∃ k q : Nat, k ≤ R.length ∧ x = .int .i64 k ∧ s = .int .i64 (dsn R N P i k) ∧ wr = W.drewN q) (fun _ x _ => R.length - (intOf x).toNat)
  case atStart => exact ⟨0, 0, Nat.zero_le _, rfl, by simp [dsn, sqS], rfl⟩
  case round =>
    obtain ⟨k, q, hk, rfl, rfl, rfl⟩ := hrel
    by_cases hlt : k < R.length
    · obtain ⟨b1, off1, rfl, hb1, hc1⟩ := HI.out.at_ (i := k) (by rw [HL.out]; exact hlt)
      obtain ⟨b2, off2, rfl, hb2, hc2⟩ := HV.out.at_ (i := k) (by rw [HPl.out]; exact hlt)
      by_cases he : k = i
      · subst he
        have z : ((k : Int) != (k : Int)) = false := by simp
        have HN := Lib.hid (dsn_same (R := R) (N := N) (P := P) (i := k))
        generalize dsn R N P k k = s at *
        go_wp2
        go_roundw
        case rel => exact ⟨k + 1, _, by omega, by go_num, by rw [HN.out], rfl⟩
        case measure => simp [intOf]; omega
      · have z : ((k : Int) != (i : Int)) = true := by simp; omega
        have HN := Lib.hid (dsn_next (R := R) (N := N) (P := P) he)
        have h1 := dsn_in HO.out HP.out hi k hk
        have h2 := dsn_in HO.out HP.out hi (k + 1) hlt
        have h3 := (HO.out.2.2.2 i hi).2.1 k hlt
        have h4 := HP.out.2 k hlt
        rw [dsn_next he] at h2
        have h5 : el (rwI R i) k * el P k = dsn R N P i k + el (rwI R i) k * el P k - dsn R N P i k := by omega
        generalize dsn R N P i k = s at *
        generalize el (rwI R i) k = x at *
        generalize el P k = y at *
        obtain ⟨p, hp⟩ : ∃ p, x * y = p := ⟨_, rfl⟩
        rw [hp] at HN h2 h5
        obtain ⟨u, hu⟩ : ∃ u, s + p = u := ⟨_, rfl⟩
        rw [hu] at HN h2
        have r1 := wrapS (n := p) (by omega)
        have r1' := wrapS' (n := p) (by omega)
        have r2 := wrapS (n := u) (by omega)
        have r2' := wrapS' (n := u) (by omega)
        clear he h1 h2 h3 h4 h5 hb1 hb2
        go_wp2
        go_quiet (fail)
        go_wp2
        go_roundw
        case rel => exact ⟨k + 1, _, by omega, by go_num, by rw [HN.out], rfl⟩
        case measure => simp [intOf]; omega
    · obtain rfl : R.length = k := by omega
      go_wp2
      go_ret
      exact ⟨ret_int HD.out, below_drewN HB.out.b q⟩
set_option maxHeartbeats 1000000 in
theorem specOk_is (a v : Option Addr) (c c' : Nat) (R : List (List Int)) (N T : Int) (P : List Int) (ans : Bool) (w : World) (hr : RowsL w w.heap.size a R) (hv : Ints .i64 w w.heap.size v P) (hans : decide (LkOk R N T ∧ PwOk R.length P) = ans) :
    Calls Try.prog 44 #[.agg #[.slice a R.length c, .int .i64 N, .int .i64 T], .slice v P.length c'] w fun e w' => e = .returned (.bool ans) ∧ Below w.heap.size w w' := by
  have HA := Lib.hid hans
  clear hans
  have HB := Lib.hid (lbox_new w a R.length c N T 25)
  have HVal := Lib.hid (fun b (h : decide (LkOk R N T) = b) => specLinksValid_is a c R N T b _ (hr.next HB.out.b) h)
  have hbg := HB.out.g
  have hbn := HB.out.n
  have hbt := HB.out.t
  by_cases h1 : LkOk R N T
  · have H1 := Lib.hid (HVal.out true (decide_eq_true h1))
    have hn5 := h1.1.2
    have HV := Lib.hid hv
    have HO := Lib.hid h1
    clear hr hv HVal h1
    by_cases hl : P.length = R.length
    · have z : ((R.length : Int) != (R.length : Int)) = false := by simp
      have HL := Lib.hid hl
      rw [hl]
      clear hl
      go_enter Try.func44, Try.ntmps44
      go_wp2_with fail
      refine H1.out.mono ?_
      rintro e w1 ⟨rfl, b1⟩
      have B1 := Lib.hid (HB.out.next b1)
      clear b1 hbg hbn hbt H1 HB
      have hbg := B1.out.g
      have HVw := Lib.hid (HV.out.below B1.out.b)
      clear HV
      go_wp2_with fail
      clear hbg z
      go_loop [5] (fun x => ∃ k : Nat, k ≤ R.length ∧ x = .int .i64 k ∧ PwIn k P) (fun x => R.length - (intOf x).toNat)
      case atStart => exact ⟨0, Nat.zero_le _, rfl, fun i hi => absurd hi (by omega)⟩
      case round =>
        obtain ⟨k, hk, rfl, hgood⟩ := hrel
        have HG := Lib.hid hgood
        clear hgood
        by_cases hlt : k < R.length
        · obtain ⟨b, off, rfl, hb, hc⟩ := HVw.out.at_ (i := k) (by rw [HL.out]; exact hlt)
          by_cases h3 : 0 ≤ el P k ∧ el P k ≤ 10000
          · have HI := Lib.hid (fun W => l1In_pw (el P k) 0 10000 true W (decide_eq_true h3))
            have HE := Lib.hid (pwIn_next HG.out h3)
            clear h3 hb
            go_wp2_with (go_at_call 38; ((with_reducible refine (HI.out _).mono ?_); rintro e w1 ⟨rfl, rfl⟩))
            go_round
            case rel => exact ⟨k + 1, by omega, by go_num, HE.out⟩
            case measure => simp [intOf]; omega
          · have HI := Lib.hid (fun W => l1In_pw (el P k) 0 10000 false W (decide_eq_false h3))
            have HF : Hid (ans = false) := HA.out.symm.trans <| decide_eq_false fun h => h3 (h.2.2 k hlt)
            clear h3 hb
            go_wp2_with (go_at_call 38; ((with_reducible refine (HI.out _).mono ?_); rintro e w1 ⟨rfl, rfl⟩))
            go_ret
            exact ⟨ret_bool HF.out.symm, B1.out.b⟩
        · obtain rfl : R.length = k := by omega
          have HF : Hid (ans = true) := HA.out.symm.trans <| decide_eq_true ⟨HO.out, HL.out, HG.out⟩
          go_wp2
          go_ret
          exact ⟨ret_bool HF.out.symm, B1.out.b⟩
    · have z : ((P.length : Int) != (R.length : Int)) = true := by simp; omega
      have HF : Hid (ans = false) := HA.out.symm.trans <| decide_eq_false fun h => hl h.2.1
      clear hl
      go_enter Try.func44, Try.ntmps44
      go_wp2_with fail
      refine H1.out.mono ?_
      rintro e w1 ⟨rfl, b1⟩
      have B1 := Lib.hid (HB.out.next b1)
      clear b1 hbg hbn hbt H1
      have hbg := B1.out.g
      go_wp2
      go_ret
      exact ⟨ret_bool HF.out.symm, B1.out.b⟩
  · have H1 := Lib.hid (HVal.out false (decide_eq_false h1))
    have HF : Hid (ans = false) := HA.out.symm.trans <| decide_eq_false fun h => h1 h.1
    clear hr hv HVal h1
    go_enter Try.func44, Try.ntmps44
    go_wp2_with (go_at_call 14; ((with_reducible refine H1.out.mono ?_); rintro e w1 ⟨rfl, b1⟩))
    go_ret
    exact ⟨ret_bool HF.out.symm, (HB.out.next b1).b⟩
set_option maxHeartbeats 2000000 in
theorem specLinksMeet_any (a v : Option Addr) (c c' : Nat) (R : List (List Int)) (N T : Int) (P : List Int) (w : World) (hr : RowsL w w.heap.size a R) (hv : Ints .i64 w w.heap.size v P) :
    Calls Try.prog 18 #[.agg #[.slice a R.length c, .int .i64 N, .int .i64 T], .slice v P.length c'] w fun e w' => e = .returned (.bool (decide (MtOk R N T P))) ∧ Below w.heap.size w w' := by
  have HB := Lib.hid (lbox_new w a R.length c N T 25)
  have HVal := Lib.hid (fun b (h : decide (LkOk R N T ∧ PwOk R.length P) = b) => specOk_is a v c c' R N T P b _ (hr.next HB.out.b) (hv.next HB.out.b) h)
  have hbg := HB.out.g
  have hbn := HB.out.n
  have hbt := HB.out.t
  by_cases h1 : LkOk R N T ∧ PwOk R.length P
  · have H1 := Lib.hid (HVal.out true (decide_eq_true h1))
    have hn5 := h1.1.1.2
    have hPl := h1.2.1
    have HR := Lib.hid hr
    have HV := Lib.hid hv
    have HO := Lib.hid h1.1
    have HP := Lib.hid h1.2
    rw [hPl] at H1 ⊢
    clear hr hv HVal h1 hPl
    go_enter Try.func18, Try.ntmps18
    go_wp2_with fail
    refine H1.out.mono ?_
    rintro e w1 ⟨rfl, b1⟩
    have B1 := Lib.hid (HB.out.next b1)
    clear b1 hbg hbn hbt H1 HB
    go_wp2_with fail
    go_loopw [5] (fun x wr => ∃ k : Nat, k ≤ R.length ∧ x = .int .i64 k ∧ meetTo R N T P k ∧ LBox w wr w.heap.size a R.length c N T) (fun x _ => R.length - (intOf x).toNat)
    case atStart => exact ⟨0, Nat.zero_le _, rfl, fun i hi => absurd hi (by omega), B1.out⟩
    case round =>
      obtain ⟨k, hk, rfl, hgood, hbox⟩ := hrel
      have HG := Lib.hid hgood
      have HB := Lib.hid hbox
      clear hgood hbox B1
      have hbg := HB.out.g
      have hbn := HB.out.n
      have hbt := HB.out.t
      by_cases hlt : k < R.length
      · obtain ⟨b, off, ad, cp, rfl, hrow, hcp, hcm, hints⟩ := (HR.out.below HB.out.b).at_ hlt
        rw [(HO.out.2.2.2 k hlt).1] at hrow hcp
        obtain ⟨b1, off1, rfl, hb1, hc1⟩ := hints.at_ (i := k) (by rw [(HO.out.2.2.2 k hlt).1]; exact hlt)
        obtain ⟨b2, off2, rfl, hb2, hc2⟩ := (HV.out.below HB.out.b).at_ (i := k) (by rw [HP.out.1]; exact hlt)
        obtain ⟨s, hs⟩ : ∃ s, dsn R N P k R.length = s := ⟨_, rfl⟩
        have HN := Lib.hid (fun W hr hv => disturb_is (some ⟨b, off, none⟩) (some ⟨b2, off2, none⟩) c c' R N T P k s W hr hv HO.out HP.out hlt hs)
        obtain ⟨x, hx⟩ : ∃ x, T * s = x := ⟨_, rfl⟩
        have hx0 : ndI R N T P k = x := by rw [← hx, ← hs]; rfl
        have hx1 := ndI_in HO.out HP.out hlt
        have hg1 := gI_in HO.out hlt
        have hp1 := HP.out.2 k hlt
        have hu1 : 0 ≤ 10 * el (rwI R k) k * el P k ∧ 10 * el (rwI R k) k * el P k ≤ 10000 * 10000 :=
          ⟨Int.mul_nonneg (by omega) hp1.1, Int.mul_le_mul hg1.2 hp1.2 hp1.1 (by decide)⟩
        have HU := Lib.hid (fun u (hu : 10 * el (rwI R k) k * el P k = u) (h : u < x) => meetTo_bad hlt hu hx0 h)
        have HM := Lib.hid (fun (h : x ≤ 10 * el (rwI R k) k * el P k) => meetTo_next HG.out (by rw [hx0]; exact h))
        have HRw := Lib.hid ((HR.out.below HB.out.b).more HB.out.b.size)
        have HVw := Lib.hid ((HV.out.below HB.out.b).more HB.out.b.size)
        rw [hx0] at hx1
        generalize el (rwI R k) k = g at *
        generalize el P k = y at *
        obtain ⟨f, hf⟩ : ∃ f, 10 * g = f := ⟨_, rfl⟩
        rw [hf] at hu1 hg1 HU HM
        obtain ⟨u, hu⟩ : ∃ u, f * y = u := ⟨_, rfl⟩
        rw [hu] at hu1 HM
        have HU := Lib.hid (HU.out u hu)
        have r1 := wrapS (n := f) (by omega)
        have r1' := wrapS' (n := f) (by omega)
        have r2 := wrapS (n := u) (by omega)
        have r2' := wrapS' (n := u) (by omega)
        have r3 := wrapS (n := x) (by omega)
        have r3' := wrapS' (n := x) (by omega)
        clear hb1 hb2 hints hx0 hx1 hu1 hp1 hs
        have M0 : Hid (MS w wr w.heap.size (some ⟨b, off, none⟩) R.length c N T ⟨b, off + k, none⟩ ⟨b1, off1 + k, none⟩ ⟨b2, off2 + k, none⟩ (.slice (some ⟨b1, off1, none⟩) R.length cp) (.int .i64 g) (.int .i64 y)) := ⟨HB.out, hrow, hc1, hc2⟩
        have HN2 := Lib.hid (fun (X : Prop) W (h : MSC w W w.heap.size (some ⟨b, off, none⟩) R.length c N T ⟨b, off + k, none⟩ ⟨b1, off1 + k, none⟩ ⟨b2, off2 + k, none⟩ (.slice (some ⟨b1, off1, none⟩) R.length cp) (.int .i64 g) (.int .i64 y) ∧ X) =>
          HN.out W ((HR.out.below h.1.out.1.b).more h.1.out.1.b.size) ((HV.out.below h.1.out.1.b).more h.1.out.1.b.size))
        clear HN HRw HVw
        go_wp2_with fail
        go_region_held3 (fun w' => MSC w w' w.heap.size (some ⟨b, off, none⟩) R.length c N T ⟨b, off + k, none⟩ ⟨b1, off1 + k, none⟩ ⟨b2, off2 + k, none⟩ (.slice (some ⟨b1, off1, none⟩) R.length cp) (.int .i64 g) (.int .i64 y) ∧
            w'.cell? ⟨w.heap.size, 0, none⟩ = some (.slice (some ⟨b, off, none⟩) R.length c) ∧ w'.cell? ⟨w.heap.size, 1, none⟩ = some (.int .i64 N) ∧ w'.cell? ⟨w.heap.size, 2, none⟩ = some (.int .i64 T) ∧
            w'.cell? ⟨b, off + k, none⟩ = some (.slice (some ⟨b1, off1, none⟩) R.length cp) ∧ w'.cell? ⟨b1, off1 + k, none⟩ = some (.int .i64 g) ∧ w'.cell? ⟨b2, off2 + k, none⟩ = some (.int .i64 y))
          (first
            | exact MS.all (MS.next M0.out (below_drewN (Below.refl _ _) 1))
            | exact MS.all_next (by assumption) (by assumption)
            | fail)
          (first
            | (go_at_call 45; refine (HN2.out _ _ (by assumption)).mono ?_; rintro e w' ⟨rfl, hb⟩)
            | fail)
        all_goals
          have D2 := Lib.hid (MSC.back (by assumption))
          by_cases h3 : u < x
          · have HF := Lib.hid (HU.out h3)
            go_wp2
            go_ret
            exact ⟨ret_bool HF.out.symm, D2.out.1.b⟩
          · have HF := Lib.hid (HM.out (by omega))
            go_wp2
            go_roundw
            case rel => exact ⟨k + 1, by omega, by go_num, HF.out, D2.out.1⟩
            case measure => simp [intOf]; omega
      · obtain rfl : R.length = k := by omega
        have HF : Hid (decide (MtOk R N T P) = true) := decide_eq_true ⟨HO.out, HP.out, HG.out⟩
        go_wp2
        go_ret
        exact ⟨ret_bool HF.out.symm, HB.out.b⟩
  · have H1 := Lib.hid (HVal.out false (decide_eq_false h1))
    have HF : Hid (decide (MtOk R N T P) = false) := decide_eq_false fun h => h1 ⟨h.1, h.2.1⟩
    clear hr hv HVal h1
    go_enter Try.func18, Try.ntmps18
    go_wp2_with (go_at_call 44; ((with_reducible refine H1.out.mono ?_); rintro e w1 ⟨rfl, b1⟩))
    go_ret
    exact ⟨ret_bool HF.out.symm, (HB.out.next b1).b⟩
end Go.Proofs.Ytlgcacoggikfcaa
