/-
  The law of LeastPowers, walked: it returns true for every code, and writes into nothing that was there. No condition.
-/
import Derived.Test.YtlgcacoggikfcaaPwDraw7
import Derived.Test.YtlgcacoggikfcaaPwLaw1
namespace Go.Proofs.Ytlgcacoggikfcaa
open Go.RowKit

theorem less_bad {R : List (List Int)} {N T : Int} {S : List Int} {k : Nat} (hS : lpL R N T = S) (hn : S.length = R.length) (hk : k < S.length) {x y : Int} (hx : el S k = x) (hy : x - 1 = y) : decide (MtOk R N T (S.set k y)) = false :=
  decide_eq_false (lpL_less (i := k) (by omega) (by
    have e : el (S.set k y) k = y := by simp [el, hk]
    rw [e, hS, hx, ← hy]
    omega))
set_option maxHeartbeats 8000000 in
theorem walkLeastPowers (a : Option Addr) (c : Nat) (ds : List Int) (w : World) (hx : Ints .u8 w w.heap.size a ds) (hw : ∀ n ∈ ds, (Lit.int .u8 n).wf = true) (hc : ds.length ≤ c) (hcm : c ≤ maxLen) :
    Calls Try.prog 6 #[.slice a ds.length c] w fun e w' => e = .returned (.bool true) ∧ Below w.heap.size w w' := by
  have hb := isByte_of_wf hw
  clear hw
  by_cases hl : ds.length ≤ 1048576
  · have HX := Lib.hid hx
    have HDs := Lib.hid (And.intro hb (And.intro hc hcm))
    go_enter Try.func6, Try.ntmps6
    go_wp2_with fail
    refine (drawLeastPowers_any a c ds w hx hb hc hcm).mono ?_
    rintro e w1 ⟨ga, gc, N, T, R, rfl, hd, bl⟩
    have hal := alloc_belowX w1 (.cells #[.slice ga R.length gc, .int .i64 N, .int .i64 T] 25)
    have X1 := Lib.hid (lkVar_new w1 (.slice ga R.length gc) (.int .i64 N) (.int .i64 T))
    have Q1 := Lib.hid (hd.rows.next hal)
    have B1 := Lib.hid (Below.next bl (Nat.le_refl _) hal)
    clear hx hb hc hcm hd bl hal
    obtain ⟨S, hS⟩ : ∃ S, lpL R N T = S := ⟨_, rfl⟩
    obtain ⟨M, hM⟩ : ∃ M, decide (MtOk R N T S) = M := ⟨_, rfl⟩
    have HS := Lib.hid hS
    have HM := Lib.hid hM
    have hSl : S.length ≤ 5 := by rw [← hS]; exact lpL_len R N T
    have zs : decide (S = S) = true := by simp
    have zm : (M != M) = false := by simp
    have zq : (M == M) = true := by simp
    have HI := Lib.hid (lpPost_law (leastPowers_any ga gc R N T _ Q1.out) hS hM)
    clear hS hM
    obtain ⟨b3, hb3⟩ : ∃ b3, b3 = w1.heap.size := ⟨_, rfl⟩
    go_wp2_with fail
    generalize w1.alloc (.cells #[.slice ga R.length gc, .int .i64 N, .int .i64 T] 25) = wa at *
    rw [← hb3] at X1 ⊢
    clear hb3
    refine HI.out.mono ?_
    rintro e w2 ⟨v2, c2, rfl, hc2, o2, g2⟩
    have P2 := Lib.hid (OwnInts.ints9 o2)
    have X2 := Lib.hid (X1.out.next g2)
    have Q2 := Lib.hid (Q1.out.next g2)
    have B2 := Lib.hid (Below.next B1.out (Nat.le_refl _) g2)
    have HC2 := Lib.hid hc2
    clear o2 g2 X1 Q1 B1 HI hc2
    have HJ := Lib.hid (lpPost_law (specLeastPowers_any ga gc R N T w2 Q2.out) HS.out HM.out)
    have vg := X2.out.g
    have vn := X2.out.n
    have vt := X2.out.t
    go_wp2_with fail
    refine HJ.out.mono ?_
    rintro e w3 ⟨v3, c3, rfl, _, o3, g3⟩
    have U3 := Lib.hid (OwnInts.ints9 o3)
    have P3 := Lib.hid (P2.out.next g3)
    have X3 := Lib.hid (X2.out.next g3)
    have Q3 := Lib.hid (Q2.out.next g3)
    have B3 := Lib.hid (Below.next B2.out (Nat.le_refl _) g3)
    clear o3 g3 P2 X2 Q2 B2 HJ vg vn vt
    go_wp2_with fail
    refine (sameInts_any v2 v3 c2 c3 w3.heap.size w3.heap.size S S w3 P3.out U3.out (by omega)).mono ?_
    rintro e w4' ⟨rfl, n4, rfl⟩
    have P4 : Hid (Ints .i64 (w3.drewN n4) (w3.drewN n4).heap.size v2 S) := Lib.hid (P3.out.drewN n4)
    have X4 := Lib.hid (X3.out.drewN n4)
    have Q4 : Hid (RowsL (w3.drewN n4) (w3.drewN n4).heap.size ga R) := Lib.hid (Q3.out.drewN n4)
    have B4 := Lib.hid (below_drewN B3.out n4)
    clear P3 X3 Q3 B3 U3
    generalize w3.drewN n4 = w4 at *
    by_cases hok : LkOk R N T
    · have HL := Lib.hid hok
      have hlen : S.length = R.length := by rw [← HS.out]; exact (lpL_ok hok).1
      have hp0 : 1 ≤ S.length := by rw [hlen]; exact hok.1.1
      have z0 : ((S.length : Int) == 0) = false := by rw [beq_eq_false_iff_ne]; omega
      have HLen := Lib.hid hlen
      have hb' := HDs.out.1
      have HDr := Lib.hid (drawLinksMeet_any a c ds w4 (HX.out.next B4.out) HDs.out.1 HDs.out.2.1 HDs.out.2.2)
      clear hok hlen hb'
      go_wp2_with fail
      refine HDr.out.mono ?_
      rintro e w5 ⟨ga2, gc2, N2, T2, R2, ov, oc, O, rfl, _, _, ho, g5⟩
      have O5 := Lib.hid ho
      have P5 := Lib.hid (P4.out.next g5)
      have X5 := Lib.hid (X4.out.next g5)
      have Q5 := Lib.hid (Q4.out.next g5)
      have B5 := Lib.hid (Below.next B4.out (Nat.le_refl _) g5)
      clear ho g5 P4 X4 Q4 B4 HDr z0
      have hal := alloc_belowX w5 (.cells #[.slice ga2 R2.length gc2, .int .i64 N2, .int .i64 T2] 25)
      have O6 := Lib.hid (O5.out.next hal)
      have P6 := Lib.hid (P5.out.next hal)
      have X6 := Lib.hid (X5.out.next hal)
      have Q6 := Lib.hid (Q5.out.next hal)
      have B6 := Lib.hid (Below.next B5.out (Nat.le_refl _) hal)
      obtain ⟨MO, hMO⟩ : ∃ MO, decide (MtOk R N T O) = MO := ⟨_, rfl⟩
      have hlo := linksMeet_any ga ov gc oc R N T O _ Q6.out O6.out
      rw [hMO] at hlo
      have HLo := Lib.hid hlo
      have HMO := Lib.hid hMO
      have lt3 := X5.out.lt
      have vg := X5.out.g
      have vn := X5.out.n
      have vt := X5.out.t
      clear hal O5 P5 X5 Q5 B5 hlo hMO
      go_wp2_with fail
      generalize w5.alloc (.cells #[.slice ga2 R2.length gc2, .int .i64 N2, .int .i64 T2] 25) = w6 at *
      refine HLo.out.mono ?_
      rintro e w7 ⟨rfl, g7⟩
      have O7 := Lib.hid (O6.out.next g7)
      have P7 := Lib.hid (P6.out.next g7)
      have X7 := Lib.hid (X6.out.next g7)
      have Q7 := Lib.hid (Q6.out.next g7)
      have B7 := Lib.hid (Below.next B6.out (Nat.le_refl _) g7)
      clear g7 O6 P6 X6 Q6 B6 HLo vg vn vt lt3
      have hfix := lpL_fix HL.out
      rw [HS.out] at hfix
      have hpw := lpL_ok HL.out
      rw [HS.out] at hpw
      have HSt := Lib.hid (show stOr R N T S = S by rw [stOr_yes HL.out hpw, hfix])
      have HIn := Lib.hid (fun k (hk : k < S.length) => hpw.2 k (by rw [← HLen.out]; exact hk))
      clear hfix hpw
      cases MO
      · cases M
        · skip
          go_wp2_with fail
          go_loopw [11] (fun x wr => x = .int .i64 0 ∧ wr = w7) (fun _ _ => 0)
          case atStart => exact ⟨rfl, rfl⟩
          case round =>
            obtain ⟨rfl, rfl⟩ := hrel
            have hps := powerStep_any ga v2 gc c2 R N T S wr Q7.out P7.out
            rw [HSt.out] at hps
            have HPs := Lib.hid hps
            have vg := X7.out.g
            have vn := X7.out.n
            have vt := X7.out.t
            clear hps
            go_wp2_with fail
            refine HPs.out.mono ?_
            rintro e y1 ⟨yv, yc, rfl, _, oy, gy⟩
            have YU := Lib.hid (OwnInts.ints9 oy)
            have YP := Lib.hid (P7.out.next gy)
            have YX := Lib.hid (X7.out.next gy)
            have YQ := Lib.hid (Q7.out.next gy)
            have YB := Lib.hid (Below.next B7.out (Nat.le_refl _) gy)
            clear oy gy HPs vg vn vt
            have hlm := fun m => linksMeet_any ga v2 gc c2 R N T S (y1.drewN m) (YQ.out.drewN m) (YP.out.drewN m)
            rw [HM.out] at hlm
            have HLm := Lib.hid hlm
            have vg := YX.out.g
            have vn := YX.out.n
            have vt := YX.out.t
            clear hlm
            go_wp2_with fail
            refine (sameInts_any yv v2 yc c2 y1.heap.size y1.heap.size S S y1 YU.out YP.out (by omega)).mono ?_
            rintro e y2 ⟨rfl, m, rfl⟩
            go_wp2_with fail
            refine (HLm.out m).mono ?_
            rintro e y3 ⟨rfl, b3⟩
            go_wp2
            go_ret
            exact ⟨rfl, Below.next (below_drewN YB.out m) (Nat.le_refl _) b3⟩
        · skip
          go_wp2_with fail
          go_loopw [11] (fun x wr => ∃ k : Nat, k ≤ S.length ∧ x = .int .i64 k ∧ Below w7.heap.size w7 wr) (fun x _ => S.length - (intOf x).toNat)
          case atStart => exact ⟨0, Nat.zero_le _, rfl, Below.refl _ _⟩
          case round =>
            obtain ⟨k, hk, rfl, hbel⟩ := hrel
            have ZP := Lib.hid (P7.out.next hbel)
            have ZX := Lib.hid (X7.out.next hbel)
            have ZQ := Lib.hid (Q7.out.next hbel)
            have ZB := Lib.hid (Below.next B7.out (Nat.le_refl _) hbel)
            have ZW := Lib.hid hbel
            clear hbel
            by_cases hkl : k < S.length
            · have hin := HIn.out k hkl
              obtain ⟨x, hx⟩ : ∃ x, el S k = x := ⟨_, rfl⟩
              rw [hx] at hin
              obtain ⟨y, hy⟩ : ∃ y, x - 1 = y := ⟨_, rfl⟩
              have HBad := Lib.hid (less_bad HS.out HLen.out hkl hx hy)
              have HXx := Lib.hid hx
              have r1 := wrapS (n := y) (by omega)
              have r1' := wrapS' (n := y) (by omega)
              have L0 := Lib.hid (Grow.lit0 .i64 3 wr wr.heap.size (Nat.le_refl _))
              have hal := alloc_belowX wr (.cells #[] 3)
              have IP := Lib.hid (ZP.out.next hal)
              have HAl := Lib.hid hal
              clear hx hal
              go_wp2_with (at_builtin; refine wpList_appendA (.tmp 81) (.tmp 82) wr.heap.size (some ⟨wr.heap.size, 0, none⟩) v2 0 0 S.length c2 _ [] S rfl rfl rfl rfl L0.out IP.out rfl (by omega) (by simp) ?_; intro a3 cap3 w8 hg3 hb3 _; have hg4 : Grow .i64 3 w8 wr.heap.size a3 S.length cap3 S := (by simpa using hg3); obtain ⟨g, f, hga, hg1, hg2, hcp, hrow, hf⟩ := hg4.row (by omega); subst hga; have c8 := (hrow.cell (i := k) (by omega)).trans (by rw [hf k hkl, HXx.out]); have f8 := hrow.frozen k; have HG4 := Lib.hid hg4; have HB4 := Lib.hid (HAl.out.trans hb3); have HG1 := Lib.hid hg1; have HB5 := Lib.hid (HB4.out.setCell (p := ⟨g, k, none⟩) HG1.out (.int .i64 y)); have ZX8 := Lib.hid (ZX.out.next HB4.out); have ZX9 := Lib.hid (ZX.out.next HB5.out); have hbg : b3 < g := Nat.lt_of_lt_of_le ZX.out.lt hg1; have vg8 := ZX8.out.g; have vn8 := ZX8.out.n; have vt8 := ZX8.out.t; have vg := ZX9.out.g; have vn := ZX9.out.n; have vt := ZX9.out.t; clear hg3 hb3 hg4 hrow hf)
              have HG5 := Lib.hid (HG4.out.set k y)
              have hlk := linksMeet_any ga (some ⟨g, 0, none⟩) gc cap3 R N T (S.set k y) _ (ZQ.out.next HB5.out) (Grow.ints HG5.out)
              rw [HBad.out, List.length_set] at hlk
              refine hlk.mono ?_
              rintro e wz ⟨rfl, bz⟩
              have HBz := Lib.hid (Below.next (Below.next ZW.out (Nat.le_refl _) HB5.out) (Nat.le_refl _) bz)
              clear hlk bz c8 f8 vg8 vn8 vt8 vg vn vt
              go_wp2
              go_roundw
              case rel => exact ⟨k + 1, by omega, by go_num, HBz.out⟩
              case measure => simp [intOf]; omega
            · obtain rfl : S.length = k := by omega
              have hps := powerStep_any ga v2 gc c2 R N T S wr ZQ.out ZP.out
              rw [HSt.out] at hps
              have HPs := Lib.hid hps
              have vg := ZX.out.g
              have vn := ZX.out.n
              have vt := ZX.out.t
              clear hps
              go_wp2_with fail
              refine HPs.out.mono ?_
              rintro e y1 ⟨yv, yc, rfl, _, oy, gy⟩
              have YU := Lib.hid (OwnInts.ints9 oy)
              have YP := Lib.hid (ZP.out.next gy)
              have YX := Lib.hid (ZX.out.next gy)
              have YQ := Lib.hid (ZQ.out.next gy)
              have YB := Lib.hid (Below.next ZB.out (Nat.le_refl _) gy)
              clear oy gy HPs vg vn vt
              have hlm := fun m => linksMeet_any ga v2 gc c2 R N T S (y1.drewN m) (YQ.out.drewN m) (YP.out.drewN m)
              rw [HM.out] at hlm
              have HLm := Lib.hid hlm
              have vg := YX.out.g
              have vn := YX.out.n
              have vt := YX.out.t
              clear hlm
              go_wp2_with fail
              refine (sameInts_any yv v2 yc c2 y1.heap.size y1.heap.size S S y1 YU.out YP.out (by omega)).mono ?_
              rintro e y2 ⟨rfl, m, rfl⟩
              go_wp2_with fail
              refine (HLm.out m).mono ?_
              rintro e y3 ⟨rfl, b3⟩
              go_wp2
              go_ret
              exact ⟨rfl, Below.next (below_drewN YB.out m) (Nat.le_refl _) b3⟩
      · have hmo := of_decide_eq_true HMO.out
        have hle := lpL_least hmo
        rw [HS.out] at hle
        obtain rfl : M = true := by rw [← HM.out]; exact decide_eq_true hle.1
        have hol : O.length = S.length := by rw [HLen.out]; exact hmo.2.1.1
        have HOl := Lib.hid hol
        have HLe := Lib.hid (fun k (hk : k < S.length) => hle.2 k (by rw [← HLen.out]; exact hk))
        clear hmo hle hol
        go_wp2_with fail
        go_loopw [10] (fun x wr => ∃ k q : Nat, k ≤ S.length ∧ x = .int .i64 k ∧ wr = w7.drewN q) (fun x _ => S.length - (intOf x).toNat)
        case atStart => exact ⟨0, 0, Nat.zero_le _, rfl, rfl⟩
        case round =>
          obtain ⟨k, q, hk, rfl, rfl⟩ := hrel
          by_cases hkl : k < S.length
          · obtain ⟨b1, o1, rfl, _, hc1⟩ := P7.out.at_ hkl
            obtain ⟨b2, o2, rfl, _, hc2⟩ := O7.out.at_ (i := k) (by rw [HOl.out]; exact hkl)
            have h1 := HLe.out k hkl
            have hko : k < O.length := by rw [HOl.out]; exact hkl
            generalize el S k = u at *
            generalize el O k = o at *
            have h3 : ¬ o < u := by omega
            clear h1
            go_wp2
            go_quiet (fail)
            go_wp2
            go_roundw
            case rel => exact ⟨k + 1, _, by omega, by go_num, rfl⟩
            case measure => simp [intOf]; omega
          · obtain rfl : S.length = k := by omega
            have P8 : Hid (Ints .i64 (w7.drewN q) (w7.drewN q).heap.size v2 S) := Lib.hid (P7.out.drewN q)
            have Q8 : Hid (RowsL (w7.drewN q) (w7.drewN q).heap.size ga R) := Lib.hid (Q7.out.drewN q)
            have X8 := Lib.hid (X7.out.drewN q)
            have B8 := Lib.hid (below_drewN B7.out q)
            clear P7 Q7 X7 B7 O7
            generalize w7.drewN q = w8 at *
            go_wp2_with fail
            go_loopw [11] (fun x wr => ∃ k : Nat, k ≤ S.length ∧ x = .int .i64 k ∧ Below w8.heap.size w8 wr) (fun x _ => S.length - (intOf x).toNat)
            case atStart => exact ⟨0, Nat.zero_le _, rfl, Below.refl _ _⟩
            case round =>
              obtain ⟨k, hk, rfl, hbel⟩ := hrel
              have ZP := Lib.hid (P8.out.next hbel)
              have ZX := Lib.hid (X8.out.next hbel)
              have ZQ := Lib.hid (Q8.out.next hbel)
              have ZB := Lib.hid (Below.next B8.out (Nat.le_refl _) hbel)
              have ZW := Lib.hid hbel
              clear hbel
              by_cases hkl : k < S.length
              · have hin := HIn.out k hkl
                obtain ⟨x, hx⟩ : ∃ x, el S k = x := ⟨_, rfl⟩
                rw [hx] at hin
                obtain ⟨y, hy⟩ : ∃ y, x - 1 = y := ⟨_, rfl⟩
                have HBad := Lib.hid (less_bad HS.out HLen.out hkl hx hy)
                have HXx := Lib.hid hx
                have r1 := wrapS (n := y) (by omega)
                have r1' := wrapS' (n := y) (by omega)
                have L0 := Lib.hid (Grow.lit0 .i64 3 wr wr.heap.size (Nat.le_refl _))
                have hal := alloc_belowX wr (.cells #[] 3)
                have IP := Lib.hid (ZP.out.next hal)
                have HAl := Lib.hid hal
                clear hx hal
                go_wp2_with (at_builtin; refine wpList_appendA (.tmp 81) (.tmp 82) wr.heap.size (some ⟨wr.heap.size, 0, none⟩) v2 0 0 S.length c2 _ [] S rfl rfl rfl rfl L0.out IP.out rfl (by omega) (by simp) ?_; intro a3 cap3 w8 hg3 hb3 _; have hg4 : Grow .i64 3 w8 wr.heap.size a3 S.length cap3 S := (by simpa using hg3); obtain ⟨g, f, hga, hg1, hg2, hcp, hrow, hf⟩ := hg4.row (by omega); subst hga; have c8 := (hrow.cell (i := k) (by omega)).trans (by rw [hf k hkl, HXx.out]); have f8 := hrow.frozen k; have HG4 := Lib.hid hg4; have HB4 := Lib.hid (HAl.out.trans hb3); have HG1 := Lib.hid hg1; have HB5 := Lib.hid (HB4.out.setCell (p := ⟨g, k, none⟩) HG1.out (.int .i64 y)); have ZX8 := Lib.hid (ZX.out.next HB4.out); have ZX9 := Lib.hid (ZX.out.next HB5.out); have hbg : b3 < g := Nat.lt_of_lt_of_le ZX.out.lt hg1; have vg8 := ZX8.out.g; have vn8 := ZX8.out.n; have vt8 := ZX8.out.t; have vg := ZX9.out.g; have vn := ZX9.out.n; have vt := ZX9.out.t; clear hg3 hb3 hg4 hrow hf)
                have HG5 := Lib.hid (HG4.out.set k y)
                have hlk := linksMeet_any ga (some ⟨g, 0, none⟩) gc cap3 R N T (S.set k y) _ (ZQ.out.next HB5.out) (Grow.ints HG5.out)
                rw [HBad.out, List.length_set] at hlk
                refine hlk.mono ?_
                rintro e wz ⟨rfl, bz⟩
                have HBz := Lib.hid (Below.next (Below.next ZW.out (Nat.le_refl _) HB5.out) (Nat.le_refl _) bz)
                clear hlk bz c8 f8 vg8 vn8 vt8 vg vn vt
                go_wp2
                go_roundw
                case rel => exact ⟨k + 1, by omega, by go_num, HBz.out⟩
                case measure => simp [intOf]; omega
              · obtain rfl : S.length = k := by omega
                have hps := powerStep_any ga v2 gc c2 R N T S wr ZQ.out ZP.out
                rw [HSt.out] at hps
                have HPs := Lib.hid hps
                have vg := ZX.out.g
                have vn := ZX.out.n
                have vt := ZX.out.t
                clear hps
                go_wp2_with fail
                refine HPs.out.mono ?_
                rintro e y1 ⟨yv, yc, rfl, _, oy, gy⟩
                have YU := Lib.hid (OwnInts.ints9 oy)
                have YP := Lib.hid (ZP.out.next gy)
                have YX := Lib.hid (ZX.out.next gy)
                have YQ := Lib.hid (ZQ.out.next gy)
                have YB := Lib.hid (Below.next ZB.out (Nat.le_refl _) gy)
                clear oy gy HPs vg vn vt
                have hlm := fun m => linksMeet_any ga v2 gc c2 R N T S (y1.drewN m) (YQ.out.drewN m) (YP.out.drewN m)
                rw [HM.out] at hlm
                have HLm := Lib.hid hlm
                have vg := YX.out.g
                have vn := YX.out.n
                have vt := YX.out.t
                clear hlm
                go_wp2_with fail
                refine (sameInts_any yv v2 yc c2 y1.heap.size y1.heap.size S S y1 YU.out YP.out (by omega)).mono ?_
                rintro e y2 ⟨rfl, m, rfl⟩
                go_wp2_with fail
                refine (HLm.out m).mono ?_
                rintro e y3 ⟨rfl, b3⟩
                go_wp2
                go_ret
                exact ⟨rfl, Below.next (below_drewN YB.out m) (Nat.le_refl _) b3⟩
    · have hS0 : S = [] := by rw [← HS.out]; exact lpL_no hok
      subst hS0
      obtain rfl : M = false := by rw [← HM.out]; exact decide_eq_false fun h => hok h.1
      have HAL := Lib.hid (aliveP_from B4.out)
      go_wp2_with fail
      refine HAL.out.mono ?_
      rintro e w5 ⟨rfl, b5⟩
      go_wp2
      go_ret
      exact ⟨rfl, b5⟩
  · go_enter Try.func6, Try.ntmps6
    go_wp2
    go_ret
    exact ⟨rfl, Below.refl _ _⟩
end Go.Proofs.Ytlgcacoggikfcaa
