/-
  What SignalValid and SignalPower and their models answer, for every signal. No condition; the models: the length can be.
-/
import Derived.Test.YtmolpeemifngcaaSigMem
namespace Go.Proofs.Ytmolpeemifngcaa
open Go.RowKit

theorem componentValid_any (n : Int) (w : World) : Calls Try.prog 55 #[.int .i64 n] w fun e w' => e = .returned (.bool (levOk n)) ∧ w = w' := by
  by_cases h1 : -100000 ≤ n
  · by_cases h2 : n ≤ 100000
    · go_enter Try.func55, Try.ntmps55
      go_wp2
      go_ret
      exact ⟨ret_bool (by simp [levOk, h1, h2]), rfl⟩
    · go_enter Try.func55, Try.ntmps55
      go_wp2
      go_ret
      exact ⟨ret_bool (by simp [levOk, h2]), rfl⟩
  · go_enter Try.func55, Try.ntmps55
    go_wp2
    go_ret
    exact ⟨ret_bool (by simp only [levOk, decide_eq_false (show ¬ -100000 ≤ n by omega), Bool.false_and]), rfl⟩
set_option maxHeartbeats 1000000 in
theorem signalValid_any (a : Option Addr) (c : Nat) (ps : List Smp) (w : World) (hx : Sigs w w.heap.size a ps) :
    Calls Try.prog 20 #[.slice a ps.length c] w fun e w' => e = .returned (.bool (sigOk ps)) ∧ Below w.heap.size w w' := by
  have HX := Lib.hid hx
  clear hx
  by_cases hl : ps.length ≤ 256
  · have HL := Lib.hid hl
    have hl' : ¬ (256 : Int) < (ps.length : Int) := by omega
    clear hl
    go_enter Try.func20, Try.ntmps20
    go_wp2
    clear hl'
    go_loopw [10] (fun i wr => ∃ k : Nat, k ≤ ps.length ∧ i = .int .i64 k ∧ goodTo ps k ∧ Below w.heap.size w wr) (fun i _ => ps.length - (intOf i).toNat)
    case atStart => exact ⟨0, Nat.zero_le _, rfl, fun i hi => absurd hi (by omega), Below.refl _ _⟩
    case round =>
      obtain ⟨k, hk, rfl, hgood, hbel⟩ := hrel
      have HG := Lib.hid hgood
      have HB := Lib.hid hbel
      have hsz : w.heap.size ≤ wr.heap.size := hbel.size
      have HS := Lib.hid hsz
      have hk2 : k ≤ 256 := Nat.le_trans hk HL.out
      clear hgood hbel hsz
      by_cases hlt : k < ps.length
      · obtain ⟨b, off, rfl, hb, hc, hc'⟩ := (HX.out.below HB.out).at_ hlt
        have HI := Lib.hid (fun W => componentValid_any (sI ps k) W)
        have HQ := Lib.hid (fun W => componentValid_any (sQ ps k) W)
        have HA := Lib.hid (fun o : Obj => HB.out.alloc HS.out o)
        have HW : Hid (b < wr.heap.size) := Nat.lt_of_lt_of_le hb HS.out
        clear hb
        cases h1 : levOk (sI ps k)
        · rw [h1] at HI
          have HE : Hid (sigOk ps = false) := sigOk_bad hlt (by show (levOk (sI ps k) && levOk (sQ ps k)) = false; rw [h1]; rfl)
          clear h1
          go_wp2_with (go_at_call 55; ((with_reducible refine (HI.out _).mono ?_); rintro e w1 ⟨rfl, rfl⟩))
          go_ret
          exact ⟨ret_bool HE.out.symm, HA.out _⟩
        · rw [h1] at HI
          cases h2 : levOk (sQ ps k)
          · rw [h2] at HQ
            have HE : Hid (sigOk ps = false) := sigOk_bad hlt (by show (levOk (sI ps k) && levOk (sQ ps k)) = false; rw [h2, Bool.and_false])
            clear h1 h2
            go_wp2_with (first
              | (go_at_call 55; ((with_reducible refine (HI.out _).mono ?_); rintro e w1 ⟨rfl, rfl⟩))
              | (go_at_call 55; ((with_reducible refine (HQ.out _).mono ?_); rintro e w1 ⟨rfl, rfl⟩)))
            go_ret
            exact ⟨ret_bool HE.out.symm, HA.out _⟩
          · rw [h2] at HQ
            have HE : Hid (goodTo ps (k + 1)) := goodTo_next HG.out (by show (levOk (sI ps k) && levOk (sQ ps k)) = true; rw [h1, h2]; rfl)
            clear h1 h2
            go_wp2_with (first
              | (go_at_call 55; ((with_reducible refine (HI.out _).mono ?_); rintro e w1 ⟨rfl, rfl⟩))
              | (go_at_call 55; ((with_reducible refine (HQ.out _).mono ?_); rintro e w1 ⟨rfl, rfl⟩)))
            go_roundw
            case rel => exact ⟨k + 1, by omega, by go_num, HE.out, HA.out _⟩
            case measure => simp [intOf]; omega
      · obtain rfl : ps.length = k := by omega
        have HE : Hid (sigOk ps = true) := sigOk_good HG.out HL.out
        go_wp2
        go_ret
        exact ⟨ret_bool HE.out.symm, HB.out⟩
  · have HE : Hid (sigOk ps = false) := sigOk_long (by omega)
    have hl' : (256 : Int) < (ps.length : Int) := by omega
    clear hl
    go_enter Try.func20, Try.ntmps20
    go_wp2
    go_ret
    exact ⟨ret_bool HE.out.symm, Below.refl _ _⟩
set_option maxHeartbeats 1000000 in
theorem specSignalValid_any (a : Option Addr) (c B : Nat) (ps : List Smp) (w : World) (hx : Sigs w B a ps) (hl : ps.length ≤ maxLen) :
    Calls Try.prog 24 #[.slice a ps.length c] w fun e w' => e = .returned (.bool (sigOk ps)) ∧ w = w' := by
  have HX := Lib.hid hx
  have HL : Hid (ps.length ≤ 9223372036854775807) := hl
  clear hx hl
  go_enter Try.func24, Try.ntmps24
  go_wp2
  go_loop [3] (fun i => ∃ k : Nat, k ≤ ps.length ∧ i = .int .i64 k ∧ goodTo ps k) (fun i => ps.length - (intOf i).toNat)
  case atStart => exact ⟨0, Nat.zero_le _, rfl, fun i hi => absurd hi (by omega)⟩
  case round =>
    obtain ⟨k, hk, rfl, hgood⟩ := hrel
    have HG := Lib.hid hgood
    clear hgood
    by_cases hlt : k < ps.length
    · obtain ⟨b, off, rfl, hb, hc, hc'⟩ := HX.out.at_ hlt
      have HI := Lib.hid (fun W => l1In_any (sI ps k) (-100000) 100000 W)
      have HQ := Lib.hid (fun W => l1In_any (sQ ps k) (-100000) 100000 W)
      have hk2 : k < 9223372036854775807 := Nat.lt_of_lt_of_le hlt HL.out
      cases h1 : levOk (sI ps k)
      · rw [show (decide (-100000 ≤ sI ps k) && decide (sI ps k ≤ 100000)) = false from h1] at HI
        have HE : Hid (sigOk ps = false) := sigOk_bad hlt (by show (levOk (sI ps k) && levOk (sQ ps k)) = false; rw [h1]; rfl)
        clear h1 HQ
        go_wp2_with (go_at_call 58; ((with_reducible refine (HI.out _).mono ?_); rintro e w1 ⟨rfl, rfl⟩))
        go_ret
        exact ⟨ret_bool HE.out.symm, rfl⟩
      · rw [show (decide (-100000 ≤ sI ps k) && decide (sI ps k ≤ 100000)) = true from h1] at HI
        cases h2 : levOk (sQ ps k)
        · rw [show (decide (-100000 ≤ sQ ps k) && decide (sQ ps k ≤ 100000)) = false from h2] at HQ
          have HE : Hid (sigOk ps = false) := sigOk_bad hlt (by show (levOk (sI ps k) && levOk (sQ ps k)) = false; rw [h2, Bool.and_false])
          clear h1 h2
          go_wp2_with (first
            | (go_at_call 58; ((with_reducible refine (HI.out _).mono ?_); rintro e w1 ⟨rfl, rfl⟩))
            | (go_at_call 58; ((with_reducible refine (HQ.out _).mono ?_); rintro e w1 ⟨rfl, rfl⟩)))
          go_ret
          exact ⟨ret_bool HE.out.symm, rfl⟩
        · rw [show (decide (-100000 ≤ sQ ps k) && decide (sQ ps k ≤ 100000)) = true from h2] at HQ
          have HE : Hid (goodTo ps (k + 1)) := goodTo_next HG.out (by show (levOk (sI ps k) && levOk (sQ ps k)) = true; rw [h1, h2]; rfl)
          clear h1 h2
          go_wp2_with (first
            | (go_at_call 58; ((with_reducible refine (HI.out _).mono ?_); rintro e w1 ⟨rfl, rfl⟩))
            | (go_at_call 58; ((with_reducible refine (HQ.out _).mono ?_); rintro e w1 ⟨rfl, rfl⟩)))
          go_round
          case rel => exact ⟨k + 1, by omega, by go_num, HE.out⟩
          case measure => simp [intOf]; omega
    · obtain rfl : ps.length = k := by omega
      have HE : Hid (decide ((ps.length : Int) ≤ 256) = sigOk ps) := by
        show decide ((ps.length : Int) ≤ 256) = sigOk ps
        by_cases hl : ps.length ≤ 256
        · rw [sigOk_good HG.out hl, decide_eq_true_iff]; omega
        · rw [sigOk_long (by omega), decide_eq_false_iff_not]; omega
      go_wp2
      go_ret
      exact ⟨ret_bool HE.out, rfl⟩

theorem wrapP {n : Int} (h : 0 ≤ n ∧ n ≤ 1000000000000000) : IntKind.i64.wrap n = n := by rw [IntKind.wrap_i64]; omega
theorem wrapP' {n : Int} (h : 0 ≤ n ∧ n ≤ 1000000000000000) : wrap64 n = n := by
  obtain ⟨m, rfl⟩ := Int.eq_ofNat_of_zero_le h.1
  exact wrap64_in (by omega)
/-- The numbers of one round of the power. -/
theorem pw_round {ps : List Smp} (h : sigOk ps = true) {k : Nat} (hk : k < ps.length) : ∃ u v s p p' : Int, u = sI ps k * sI ps k ∧ v = sQ ps k * sQ ps k ∧ s = u + v ∧ p = sgw (ps.take k) ∧ p' = p + s ∧ p' = sgw (ps.take (k + 1)) ∧
    (0 ≤ u ∧ u ≤ 1000000000000000) ∧ (0 ≤ v ∧ v ≤ 1000000000000000) ∧ (0 ≤ s ∧ s ≤ 1000000000000000) ∧ (0 ≤ p' ∧ p' ≤ 1000000000000000) ∧ 0 ≤ p := by
  have h1 := sigOk_at h hk
  have h2 := sq_range h1.1
  have h3 := sq_range h1.2
  have h4 := pw_take_range h k
  have h5 := pw_take_range h (k + 1)
  have h6 : sgw (ps.take (k + 1)) = sgw (ps.take k) + (sI ps k * sI ps k + sQ ps k * sQ ps k) := pw_take hk
  exact ⟨_, _, _, _, _, rfl, rfl, rfl, rfl, rfl, h6.symm, by omega, by omega, by omega, by omega, by omega⟩
set_option maxHeartbeats 1000000 in
theorem signalPower_any (a : Option Addr) (c : Nat) (ps : List Smp) (w : World) (hx : Sigs w w.heap.size a ps) :
    Calls Try.prog 32 #[.slice a ps.length c] w fun e w' => e = .returned (.int .i64 (pwOr ps)) ∧ Below w.heap.size w w' := by
  have HV := Lib.hid (signalValid_any a c ps w hx)
  have HX := Lib.hid hx
  clear hx
  cases hok : sigOk ps
  · rw [hok] at HV
    have HE : Hid (pwOr ps = -1) := by show pwOr ps = -1; simp [pwOr, hok]
    clear hok
    go_enter Try.func32, Try.ntmps32
    go_wp2_with fail
    refine HV.out.mono ?_
    rintro e w1 ⟨rfl, b1⟩
    have B1 := Lib.hid b1
    clear b1
    go_wp2
    go_ret
    exact ⟨ret_int HE.out.symm, B1.out⟩
  · rw [hok] at HV
    have HE : Hid (pwOr ps = sgw ps) := by show pwOr ps = sgw ps; simp [pwOr, hok]
    have HO := Lib.hid hok
    have hl := sigOk_len hok
    have HL := Lib.hid hl
    clear hok hl
    go_enter Try.func32, Try.ntmps32
    go_wp2_with fail
    refine HV.out.mono ?_
    rintro e w1 ⟨rfl, b1⟩
    have B1 := Lib.hid b1
    have HS1 := Lib.hid b1.size
    clear b1
    go_wp2
    go_loopw [3, 11] (fun s i wr => ∃ k : Nat, k ≤ ps.length ∧ i = .int .i64 k ∧ s = .int .i64 (sgw (ps.take k)) ∧ Below w.heap.size w wr) (fun _ i _ => ps.length - (intOf i).toNat)
    case atStart => exact ⟨0, Nat.zero_le _, rfl, rfl, B1.out⟩
    case round =>
      obtain ⟨k, hk, rfl, rfl, hbel⟩ := hrel
      have HB := Lib.hid hbel
      have HS := Lib.hid hbel.size
      have hk2 : k ≤ 256 := Nat.le_trans hk HL.out
      clear hbel
      by_cases hlt : k < ps.length
      · obtain ⟨b, off, rfl, hb, hc, hc'⟩ := (HX.out.below HB.out).at_ hlt
        have HA := Lib.hid (fun o : Obj => HB.out.alloc HS.out o)
        have HW : Hid (b < wr.heap.size) := Nat.lt_of_lt_of_le hb HS.out
        obtain ⟨u, v, s, p, p', hu, hv, hs, hp, hp', hq, ku, kv, ks, kp, kq⟩ := pw_round HO.out hlt
        have HQ := Lib.hid hq
        have r1 : wrap64 (sI ps k * sI ps k) = u := by rw [← hu]; exact wrapP' ku
        have r2 : wrap64 (sQ ps k * sQ ps k) = v := by rw [← hv]; exact wrapP' kv
        have r3 : wrap64 (u + v) = s := by rw [← hs]; exact wrapP' ks
        have r4 : wrap64 (p + s) = p' := by rw [← hp']; exact wrapP' kp
        rw [← hp]
        clear hb hu hv hs hp hp' hq ku kv ks kp kq
        go_wp2
        go_roundw
        case rel => exact ⟨k + 1, by omega, by go_num, by rw [← HQ.out, r4], HA.out _⟩
        case measure => simp [intOf]; omega
      · obtain rfl : ps.length = k := by omega
        have HP : Hid (sgw (ps.take ps.length) = pwOr ps) := by show sgw (ps.take ps.length) = pwOr ps; rw [List.take_length, HE.out]
        go_wp2
        go_ret
        exact ⟨ret_int HP.out, HB.out⟩
set_option maxHeartbeats 1000000 in
theorem specSignalPower_any (a : Option Addr) (c B : Nat) (ps : List Smp) (w : World) (hx : Sigs w B a ps) (hl : ps.length ≤ maxLen) :
    Calls Try.prog 34 #[.slice a ps.length c] w fun e w' => e = .returned (.int .i64 (pwOr ps)) ∧ ∃ n, w' = w.drewN n := by
  have HV := Lib.hid (specSignalValid_any a c B ps w hx hl)
  have HX := Lib.hid hx
  clear hx hl
  cases hok : sigOk ps
  · rw [hok] at HV
    have HE : Hid (pwOr ps = -1) := by show pwOr ps = -1; simp [pwOr, hok]
    clear hok
    go_enter Try.func34, Try.ntmps34
    go_wp2_with (go_at_call 24; ((with_reducible refine HV.out.mono ?_); rintro e w' ⟨rfl, rfl⟩))
    go_ret
    exact ⟨ret_int HE.out.symm, 0, rfl⟩
  · rw [hok] at HV
    have HE : Hid (pwOr ps = sgw ps) := by show pwOr ps = sgw ps; simp [pwOr, hok]
    have HO := Lib.hid hok
    have hl := sigOk_len hok
    have HL := Lib.hid hl
    clear hok hl
    go_enter Try.func34, Try.ntmps34
    go_wp2_with (go_at_call 24; ((with_reducible refine HV.out.mono ?_); rintro e w' ⟨rfl, rfl⟩))
    go_loopw [3, 4] (fun s i wr => ∃ k n : Nat, k ≤ ps.length ∧ i = .int .i64 k ∧ s = .int .i64 (sgw (ps.take k)) ∧ wr = w.drewN n) (fun _ i _ => ps.length - (intOf i).toNat)
    case atStart => exact ⟨0, 0, Nat.zero_le _, rfl, rfl, rfl⟩
    case round =>
      obtain ⟨k, n, hk, rfl, rfl, rfl⟩ := hrel
      have hk2 : k ≤ 256 := Nat.le_trans hk HL.out
      by_cases hlt : k < ps.length
      · obtain ⟨b, off, rfl, hb, hc, hc'⟩ := HX.out.at_ hlt
        obtain ⟨u, v, s, p, p', hu, hv, hs, hp, hp', hq, ku, kv, ks, kp, kq⟩ := pw_round HO.out hlt
        obtain ⟨t, ht⟩ : ∃ t, t = p + u := ⟨_, rfl⟩
        have HQ := Lib.hid hq
        have r1 : IntKind.i64.wrap (sI ps k * sI ps k) = u := by rw [← hu]; exact wrapP ku
        have r2 : IntKind.i64.wrap (sQ ps k * sQ ps k) = v := by rw [← hv]; exact wrapP kv
        have r3 : IntKind.i64.wrap (p + u) = t := by rw [← ht]; exact wrapP (by omega)
        have r4 : IntKind.i64.wrap (t + v) = p' := by rw [show t + v = p' by omega]; exact wrapP kp
        rw [← hp]
        clear hb hu hv hs hp hp' hq ku kv ks kp kq ht
        go_wp2
        go_quiet (fail)
        go_wp2
        go_roundw
        case rel => exact ⟨k + 1, _, by omega, by go_num, by rw [← HQ.out], rfl⟩
        case measure => simp [intOf]; omega
      · obtain rfl : ps.length = k := by omega
        have HP : Hid (sgw (ps.take ps.length) = pwOr ps) := by show sgw (ps.take ps.length) = pwOr ps; rw [List.take_length, HE.out]
        go_wp2
        go_ret
        exact ⟨ret_int HP.out, n, rfl⟩
end Go.Proofs.Ytmolpeemifngcaa
