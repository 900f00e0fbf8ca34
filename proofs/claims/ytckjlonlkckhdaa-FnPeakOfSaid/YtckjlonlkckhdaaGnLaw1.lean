/-
  The laws of PeakOf, GainStep and MeanAgain, walked: they return true for every code, and write into nothing that was there. No condition.
-/
import Derived.Test.YtckjlonlkckhdaaGn2
import Derived.Test.YtckjlonlkckhdaaGnDraw
import Derived.Test.YtckjlonlkckhdaaSeqLaw3
namespace Go.Proofs.Ytckjlonlkckhdaa
open Go.RowKit

theorem absG_is (n v : Int) (w : World) (hn : -1000000000000 ≤ n ∧ n ≤ 1000000000000) (hv : ab n = v) :
    Calls Try.prog 16 #[.int .i64 n] w fun e w' => e = .returned (.int .i64 v) ∧ w = w' := by
  have r1 := wrapS (n := -n) (by omega)
  have r1' := wrapS' (n := -n) (by omega)
  have H := Lib.hid hv
  clear hv hn
  by_cases h : n < -n
  · obtain rfl : v = -n := by rw [← H.out]; unfold ab; split <;> omega
    go_enter Try.func16, Try.ntmps16
    go_wp2
    go_ret
    exact ⟨rfl, rfl⟩
  · obtain rfl : v = n := by rw [← H.out]; unfold ab; split <;> omega
    go_enter Try.func16, Try.ntmps16
    go_wp2
    go_ret
    exact ⟨rfl, rfl⟩
theorem pkOr_neg {xs : List Int} : (pkOr xs < 0 ∧ pkOr xs = -1 ∧ seqOk xs = false) ∨ (0 ≤ pkOr xs ∧ seqOk xs = true) := by
  cases h : seqOk xs
  · rw [pkOr_no h]; exact .inl ⟨by omega, rfl, rfl⟩
  · rw [pkOr_yes h]; exact .inr ⟨pkN_pos _ _, rfl⟩
theorem gnOr_case (g : Int) (xs : List Int) (u : Int) : (gnOr g xs u = 0) ∨ (gnOr g xs u ≠ 0 ∧ gnOk g xs u) := by
  by_cases h : gnOk g xs u
  · have := (gn_facts (peak := pkN xs xs.length) (wanted := u) h.2.1).1
    rw [gnOr_yes h]; exact .inr ⟨by omega, h⟩
  · exact .inl (gnOr_no h)
theorem rmOr_case {xs : List Int} (h : (rmOr xs).length ≠ 0) : seqOk xs = true ∧ 0 < xs.length ∧ rmOr xs = rmL xs := by
  by_cases hc : seqOk xs = true ∧ 0 < xs.length
  · exact ⟨hc.1, hc.2, rmOr_yes hc.1 hc.2⟩
  · rw [rmOr_no hc] at h; exact absurd rfl h
theorem agOr_case {g : Int} {xs : List Int} (h : (agOr g xs).length ≠ 0) : seqOk xs = true ∧ (1 ≤ g ∧ g ≤ 4096) ∧ agOr g xs = agL g xs := by
  by_cases hc : seqOk xs = true ∧ 1 ≤ g ∧ g ≤ 4096
  · exact ⟨hc.1, hc.2, agOr_yes hc.1 hc.2.1 hc.2.2⟩
  · rw [agOr_no hc] at h; exact absurd rfl h
set_option maxHeartbeats 4000000 in
theorem walkPeakOf (a : Option Addr) (c : Nat) (ds : List Int) (w : World) (hx : Ints .u8 w w.heap.size a ds) (hw : ∀ n ∈ ds, (Lit.int .u8 n).wf = true) (hc : ds.length ≤ c) (hcm : c ≤ maxLen) :
    Calls Try.prog 3 #[.slice a ds.length c] w fun e w' => e = .returned (.bool true) ∧ Below w.heap.size w w' := by
  have hb := isByte_of_wf hw
  clear hw
  by_cases hl : ds.length ≤ 1048576
  · go_enter Try.func3, Try.ntmps3
    go_wp2_with fail
    refine (drawPeakOf_any a c ds w hx hb hc hcm).mono ?_
    rintro e w1 ⟨xs, b0, c0, rfl, ⟨lx, _, _, i1⟩, bl⟩
    have X1 := Lib.hid i1
    have B1 := Lib.hid bl
    clear hx hb hc hcm i1 bl
    obtain ⟨S, hS⟩ : ∃ S, S = pkOr xs := ⟨_, rfl⟩
    have HS := Lib.hid hS
    have z3 : (S != S) = false := by simp
    clear hS
    go_wp2_with fail
    refine (peakOf_any _ c0 _ xs w1 X1.out).mono ?_
    rw [← HS.out]
    rintro e w2 ⟨rfl, rfl⟩
    go_wp2_with fail
    refine (specPeakOf_any _ c0 xs w1 X1.out (by unfold maxLen; omega)).mono ?_
    rw [← HS.out]
    rintro e w3 ⟨rfl, n3, rfl⟩
    have B3 := Lib.hid (below_drewN B1.out n3)
    have X3 : Hid (Ints .i64 (w1.drewN n3) (w1.drewN n3).heap.size (some ⟨b0, 0, none⟩) xs) := X1.out
    clear X1 B1
    generalize w1.drewN n3 = w3 at *
    have HAL := Lib.hid (alive_from B3.out)
    rcases pkOr_neg (xs := xs) with ⟨h1, h2, h3⟩ | ⟨h1, h2⟩
    · rw [← HS.out] at h1 h2
      subst h2
      go_wp2_with fail
      refine HAL.out.mono ?_
      rintro e w8 ⟨rfl, b8⟩
      have B8 := Lib.hid b8
      clear b8
      go_wp2
      go_ret
      exact ⟨rfl, B8.out⟩
    · rw [← HS.out] at h1
      have h1' : ¬ S < 0 := by omega
      have hlx := seqOk_len h2
      have HO := Lib.hid h2
      have HMet := Lib.hid (fun hp => pkN_met xs xs.length hp)
      have HGe := Lib.hid (fun k (hk : k < xs.length) => pkN_ge xs hk)
      have hSp : S = pkN xs xs.length := by rw [HS.out, pkOr_yes h2]
      rw [← hSp] at HMet HGe
      have HSp := Lib.hid hSp
      clear h2 hSp HAL
      by_cases hx0 : xs.length = 0
      · obtain rfl : S = 0 := by rw [HSp.out, hx0]; rfl
        have z4 : ((xs.length : Int) == 0) = true := by simp [hx0]
        have hlt : ¬ (0 : Int) < (xs.length : Int) := by omega
        clear h1 h1' z3
        go_wp2
        go_loopw [5, 6] (fun m i wr => m = .bool true ∧ i = .int .i64 0 ∧ wr = w3) (fun _ _ _ => 0)
        case atStart => exact ⟨rfl, rfl, rfl⟩
        case round =>
          obtain ⟨rfl, rfl, rfl⟩ := hrel
          go_wp2
          go_ret
          exact ⟨rfl, B3.out⟩
      · have z4 : ((xs.length : Int) == 0) = false := by rw [beq_eq_false_iff_ne]; omega
        go_wp2
        clear z4 z3
        go_loopw [5, 6] (fun m i wr => ∃ (k : Nat) (b : Bool), k ≤ xs.length ∧ i = .int .i64 k ∧ m = .bool b ∧ (b = false → ∀ j, j < k → ab (el xs j) ≠ S) ∧ wr = w3) (fun _ i _ => xs.length - (intOf i).toNat)
        case atStart => exact ⟨0, false, Nat.zero_le _, rfl, rfl, fun _ j hj => absurd hj (by omega), rfl⟩
        case round =>
          obtain ⟨k, b, hk, rfl, rfl, hmet, rfl⟩ := hrel
          have HM := Lib.hid hmet
          clear hmet
          by_cases hlt : k < xs.length
          · obtain ⟨bb, off, rfl', hbb, hcc⟩ := X3.out.at_ hlt
            injection rfl' with rfl'
            injection rfl' with e1 e2
            subst e1 e2
            rw [Nat.zero_add] at hcc
            have hin := seqOk_in HO.out k
            have hge := HGe.out k hlt
            obtain ⟨v, hv⟩ : ∃ v, ab (el xs k) = v := ⟨_, rfl⟩
            have HA := Lib.hid (fun W => absG_is (el xs k) v W (by omega) hv)
            have HE := Lib.hid hv
            rw [hv] at hge
            have hgt : ¬ S < v := by omega
            generalize el xs k = x at hcc HA
            clear hin hge hv hbb
            cases b
            · by_cases he : v = S
              · have z1 : (v == S) = true := by simp [he]
                clear he
                go_wp2_with (go_at_call 16; ((with_reducible refine (HA.out _).mono ?_); rintro e w5 ⟨rfl, rfl⟩))
                go_roundw
                case rel => exact ⟨k + 1, true, by omega, by go_num, rfl, fun h => (by cases h), by first | rfl | trivial⟩
                case measure => simp [intOf]; omega
              · have z1 : (v == S) = false := by simp [he]
                have HM2 := Lib.hid (show ∀ j, j < k + 1 → ab (el xs j) ≠ S from fun j hj => by
                  by_cases e : j = k
                  · rw [e, HE.out]; exact he
                  · exact HM.out rfl j (by omega))
                clear he
                go_wp2_with (go_at_call 16; ((with_reducible refine (HA.out _).mono ?_); rintro e w5 ⟨rfl, rfl⟩))
                go_roundw
                case rel => exact ⟨k + 1, false, by omega, by go_num, rfl, fun _ => HM2.out, by first | rfl | trivial⟩
                case measure => simp [intOf]; omega
            · go_wp2_with (go_at_call 16; ((with_reducible refine (HA.out _).mono ?_); rintro e w5 ⟨rfl, rfl⟩))
              go_roundw
              case rel => exact ⟨k + 1, true, by omega, by go_num, rfl, fun h => (by cases h), by first | rfl | trivial⟩
              case measure => simp [intOf]; omega
          · obtain rfl : xs.length = k := by omega
            obtain rfl : b = true := by
              cases b
              · obtain ⟨j, hj, e⟩ := HMet.out (by omega)
                exact absurd e (HM.out rfl j hj)
              · rfl
            go_wp2
            go_ret
            exact ⟨rfl, B3.out⟩
  · go_enter Try.func3, Try.ntmps3
    go_wp2
    go_ret
    exact ⟨rfl, Below.refl _ _⟩
set_option maxHeartbeats 4000000 in
theorem walkGainStep (a : Option Addr) (c : Nat) (ds : List Int) (w : World) (hx : Ints .u8 w w.heap.size a ds) (hw : ∀ n ∈ ds, (Lit.int .u8 n).wf = true) (hc : ds.length ≤ c) (hcm : c ≤ maxLen) :
    Calls Try.prog 4 #[.slice a ds.length c] w fun e w' => e = .returned (.bool true) ∧ Below w.heap.size w w' := by
  have hb := isByte_of_wf hw
  clear hw
  by_cases hl : ds.length ≤ 1048576
  · go_enter Try.func4, Try.ntmps4
    go_wp2_with fail
    refine (drawGainStep_any a c ds w hx hb hc hcm).mono ?_
    rintro e w1 ⟨g, xs, b0, c0, u, rfl, _, _, ⟨lx, _, _, i1⟩, bl⟩
    have X1 := Lib.hid i1
    have B1 := Lib.hid bl
    clear hx hb hc hcm i1 bl
    obtain ⟨S, hS⟩ : ∃ S, S = gnOr g xs u := ⟨_, rfl⟩
    have HS := Lib.hid hS
    have z3 : (S != S) = false := by simp
    clear hS
    go_wp2_with fail
    refine (gainStep_any _ c0 _ g u xs w1 X1.out).mono ?_
    rw [← HS.out]
    rintro e w2 ⟨rfl, rfl⟩
    go_wp2_with fail
    refine (specGainStep_any _ c0 g u xs w1 X1.out (by unfold maxLen; omega)).mono ?_
    rw [← HS.out]
    rintro e w3 ⟨rfl, n3, rfl⟩
    have B3 := Lib.hid (below_drewN B1.out n3)
    have X3 : Hid (Ints .i64 (w1.drewN n3) (w1.drewN n3).heap.size (some ⟨b0, 0, none⟩) xs) := X1.out
    clear X1 B1
    generalize w1.drewN n3 = w3 at *
    have HAL := Lib.hid (alive_from B3.out)
    rcases gnOr_case g xs u with h1 | ⟨h1, h2⟩
    · rw [← HS.out] at h1
      subst h1
      clear z3
      go_wp2_with fail
      refine HAL.out.mono ?_
      rintro e w8 ⟨rfl, b8⟩
      have B8 := Lib.hid b8
      clear b8
      go_wp2
      go_ret
      exact ⟨rfl, B8.out⟩
    · rw [← HS.out] at h1
      have z4 : (S == 0) = false := by simp [h1]
      obtain ⟨ho, hg, hu1, hu2⟩ := h2
      have hpb := And.intro (pkN_pos xs xs.length) (pkN_le ho xs.length)
      obtain ⟨p, hp⟩ : ∃ p, p = pkN xs xs.length := ⟨_, rfl⟩
      have HP := peakOf_any (some ⟨b0, 0, none⟩) c0 w3.heap.size xs w3 X3.out
      rw [pkOr_yes ho, ← hp] at HP
      have HP := Lib.hid HP
      have hS := HS.out
      rw [gnOr_yes ⟨ho, hg, hu1, hu2⟩, ← hp] at hS
      obtain ⟨f1, f2, f3, f4⟩ := gn_facts (peak := p) (wanted := u) hg
      rw [← hS] at f1 f2 f3 f4
      rw [← hp] at hpb
      obtain ⟨r, hr⟩ : ∃ r, r = p * g / 256 := ⟨_, rfl⟩
      obtain ⟨q, hq⟩ : ∃ q, q = p * g := ⟨_, rfl⟩
      obtain ⟨t, ht⟩ : ∃ t, t = g / 16 := ⟨_, rfl⟩
      obtain ⟨s, hs⟩ : ∃ s, s = mx 1 (g / 16) := ⟨_, rfl⟩
      obtain ⟨v, hv⟩ : ∃ v, ab (S - g) = v := ⟨_, rfl⟩
      have HA := Lib.hid (fun W => absG_is (S - g) v W (by omega) hv)
      have hq2 : 0 ≤ q ∧ q ≤ 4096000 := by
        refine ⟨by rw [hq]; exact Int.mul_nonneg hpb.1 (by omega), ?_⟩
        have h : (p * g).natAbs ≤ 1000 * 4096 := by rw [Int.natAbs_mul]; exact Nat.mul_le_mul (by omega) (by omega)
        omega
      have hr2 : 0 ≤ r ∧ r ≤ 16000 := by rw [hr, ← hq]; omega
      have ht2 : 0 ≤ t ∧ t ≤ 256 := by omega
      have e1 : IntKind.i64.wrap (p * g) = q := by rw [← hq]; exact wrapS (by omega)
      have e1' : wrap64 (p * g) = q := by rw [← hq]; exact wrapS' (by omega)
      have e2 : q.tdiv 256 = r := by rw [Int.tdiv_eq_ediv_of_nonneg hq2.1, hr, hq]
      have e3 : IntKind.i64.wrap r = r := wrapS (by omega)
      have e3' : wrap64 r = r := wrapS' (by omega)
      have e4 : g.tdiv 16 = t := by rw [Int.tdiv_eq_ediv_of_nonneg (by omega), ht]
      have e5 : IntKind.i64.wrap t = t := wrapS (by omega)
      have e5' : wrap64 t = t := wrapS' (by omega)
      have e6 : (if t > 1 then t else 1) = s := by rw [hs, ← ht]; rfl
      have e7 := wrapS (n := S - g) (by omega)
      have e7' := wrapS' (n := S - g) (by omega)
      rw [← hs, hv] at f2
      rw [← hr] at f3 f4
      obtain ⟨f0, f0'⟩ := f1
      clear ho hg hu1 hu2 hp hS hpb hr hq ht hs hv hq2 hr2 ht2 h1 z3 HS HAL
      rcases (show S = g ∨ S < g ∨ g < S by omega) with k | k | k
      · have k1 : S ≤ g := by omega
        have k2 : g ≤ S := by omega
        clear f3 f4 k
        go_wp2_with (first | (go_at_call 13; ((with_reducible refine HP.out.mono ?_); rintro e w5 ⟨rfl, rfl⟩)) | (go_at_call 16; ((with_reducible refine (HA.out _).mono ?_); rintro e w5 ⟨rfl, rfl⟩)))
        go_ret
        exact ⟨rfl, B3.out⟩
      · have k1 : S ≤ g := by omega
        have k2 : ¬ g ≤ S := by omega
        have k3 : u < r := by omega
        clear f3 f4 k
        go_wp2_with (first | (go_at_call 13; ((with_reducible refine HP.out.mono ?_); rintro e w5 ⟨rfl, rfl⟩)) | (go_at_call 16; ((with_reducible refine (HA.out _).mono ?_); rintro e w5 ⟨rfl, rfl⟩)))
        go_ret
        exact ⟨rfl, B3.out⟩
      · have k1 : ¬ S ≤ g := by omega
        have k2 : g ≤ S := by omega
        have k3 : r < u := by omega
        clear f3 f4 k
        go_wp2_with (first | (go_at_call 13; ((with_reducible refine HP.out.mono ?_); rintro e w5 ⟨rfl, rfl⟩)) | (go_at_call 16; ((with_reducible refine (HA.out _).mono ?_); rintro e w5 ⟨rfl, rfl⟩)))
        go_ret
        exact ⟨rfl, B3.out⟩
  · go_enter Try.func4, Try.ntmps4
    go_wp2
    go_ret
    exact ⟨rfl, Below.refl _ _⟩
set_option maxHeartbeats 4000000 in
theorem walkMeanAgain (a : Option Addr) (c : Nat) (ds : List Int) (w : World) (hx : Ints .u8 w w.heap.size a ds) (hw : ∀ n ∈ ds, (Lit.int .u8 n).wf = true) (hc : ds.length ≤ c) (hcm : c ≤ maxLen) :
    Calls Try.prog 7 #[.slice a ds.length c] w fun e w' => e = .returned (.bool true) ∧ Below w.heap.size w w' := by
  have hb := isByte_of_wf hw
  clear hw
  by_cases hl : ds.length ≤ 1048576
  · go_enter Try.func7, Try.ntmps7
    go_wp2_with fail
    refine (drawRemoveMean_any a c ds w hx hb hc hcm).mono ?_
    rintro e w1 ⟨xs, b0, c0, rfl, ⟨lx, _, _, i1⟩, bl⟩
    have X1 := Lib.hid i1
    have B1 := Lib.hid bl
    clear hx hb hc hcm i1 bl
    obtain ⟨S, hS⟩ : ∃ S, S = rmOr xs := ⟨_, rfl⟩
    have HS := Lib.hid hS
    have hSl : S.length ≤ 64 := by rw [hS]; exact rmOr_length xs
    have z3 : decide (S = S) = true := by simp
    clear hS
    go_wp2_with fail
    refine (removeMean_any _ c0 xs w1 X1.out).mono ?_
    rw [← HS.out]
    rintro e w2 ⟨v2, cv2, rfl, _, o2, b2⟩
    have Y2 := Lib.hid (own_of_list o2).ints
    have X2 := Lib.hid (X1.out.next b2)
    have B2 := Lib.hid (Below.next B1.out (Nat.le_refl _) b2)
    clear o2 b2 X1 B1
    go_wp2_with fail
    refine (specRemoveMean_any _ c0 xs w2 X2.out (by unfold maxLen; omega)).mono ?_
    rw [← HS.out]
    rintro e w3 ⟨v3, cv3, rfl, _, o3, b3⟩
    have U3 := Lib.hid (own_of_list o3).ints
    have Y3 := Lib.hid (Y2.out.next b3)
    have X3 := Lib.hid (X2.out.next b3)
    have B3 := Lib.hid (Below.next B2.out (Nat.le_refl _) b3)
    clear o3 b3 Y2 X2 B2
    go_wp2_with fail
    refine (sameInts_any v2 v3 cv2 cv3 w3.heap.size w3.heap.size S S w3 Y3.out U3.out (by omega)).mono ?_
    rintro e w4 ⟨rfl, n4, rfl⟩
    have B4 := Lib.hid (below_drewN B3.out n4)
    have Y4 : Hid (Ints .i64 (w3.drewN n4) (w3.drewN n4).heap.size v2 S) := Y3.out
    have X4 : Hid (Ints .i64 (w3.drewN n4) (w3.drewN n4).heap.size (some ⟨b0, 0, none⟩) xs) := X3.out
    clear Y3 X3 B3 U3
    generalize w3.drewN n4 = w4 at *
    have HAL := Lib.hid (alive_from B4.out)
    by_cases hS0 : S.length = 0
    · have z4 : ((S.length : Int) == 0) = true := by simp [hS0]
      clear hS0
      go_wp2_with fail
      refine HAL.out.mono ?_
      rintro e w8 ⟨rfl, b8⟩
      have B8 := Lib.hid b8
      clear b8
      go_wp2
      go_ret
      exact ⟨rfl, B8.out⟩
    · have z4 : ((S.length : Int) == 0) = false := by rw [beq_eq_false_iff_ne]; omega
      obtain ⟨ho, h0, he⟩ := rmOr_case (xs := xs) (by rw [← HS.out]; exact hS0)
      have hSe : S = rmL xs := by rw [HS.out, he]
      have hSo : seqOk S = true := by rw [hSe]; exact rmL_ok ho
      have hSn : S.length = xs.length := by rw [hSe, rmL_length]
      have HP := peakOf_any v2 cv2 w4.heap.size S w4 Y4.out
      rw [pkOr_yes hSo] at HP
      obtain ⟨p, hp⟩ : ∃ p, p = pkN S S.length := ⟨_, rfl⟩
      rw [← hp] at HP
      have HP := Lib.hid HP
      by_cases hpe : p = 1000
      · subst hpe
        clear hp hSe hSo hSn HS ho h0 he
        go_wp2_with fail
        refine HP.out.mono ?_
        rintro e w5 ⟨rfl, rfl⟩
        go_wp2_with fail
        refine HAL.out.mono ?_
        rintro e w8 ⟨rfl, b8⟩
        have B8 := Lib.hid b8
        clear b8
        go_wp2
        go_ret
        exact ⟨rfl, B8.out⟩
      · have z5 : (p == 1000) = false := by simp [hpe]
        have hag : rmOr S = S := by
          rw [rmOr_yes hSo (by omega), hSe]
          exact rm_again ho h0 (by rw [← hSe, ← hSn, ← hp]; exact hpe)
        have HR := removeMean_any v2 cv2 S w4 Y4.out
        rw [hag] at HR
        have HR := Lib.hid HR
        clear hp hpe hag hSe hSo hSn HS ho h0 he
        go_wp2_with fail
        refine HP.out.mono ?_
        rintro e w5 ⟨rfl, rfl⟩
        go_wp2_with fail
        refine HR.out.mono ?_
        rintro e w6 ⟨v6, cv6, rfl, _, o6, b6⟩
        have V6 := Lib.hid (own_of_list o6).ints
        have Y6 := Lib.hid (Y4.out.next b6)
        have B6 := Lib.hid (Below.next B4.out (Nat.le_refl _) b6)
        clear o6 b6
        go_wp2_with fail
        refine (sameInts_any v6 v2 cv6 cv2 w6.heap.size w6.heap.size S S w6 V6.out Y6.out (by omega)).mono ?_
        rintro e w7 ⟨rfl, n7, rfl⟩
        go_wp2
        go_ret
        exact ⟨rfl, below_drewN B6.out n7⟩
  · go_enter Try.func7, Try.ntmps7
    go_wp2
    go_ret
    exact ⟨rfl, Below.refl _ _⟩
end Go.Proofs.Ytckjlonlkckhdaa
