/-
  The law of least costs, walked: it returns true for every list of bytes. Condition: bytes that can be read.
-/
import Derived.Test.YtnmhiagnmfpipaaRte10
import Derived.Test.YtnmhiagnmfpipaaRteDraw2
import Derived.BigQuiet
import Derived.Deep.CutRange
namespace Go.Proofs.Ytnmhiagnmfpipaa
open Go.RowKit

theorem aliveRt_from {w W : World} (hB : Below w.heap.size w W) : Calls Try.prog 18 #[] W fun e w' => e = .returned (.bool true) ∧ Below w.heap.size w w' := (alive_any W).mono fun _ _ ⟨h1, h2⟩ => ⟨h1, Below.next hB (Nat.le_refl _) h2⟩
theorem lsOr_len {R : List (List Int)} {t : Int} (h : LsOk R t) : (lsOr R t).length = R.length := by
  obtain ⟨tz, rfl, hto, hok⟩ := lsOk_cases h
  rw [lsOr_yes hok hto, lcL_len]
theorem lsOr_zero {R : List (List Int)} {t : Int} (h : (lsOr R t).length ≠ 0) : ∃ tz : Nat, t = tz ∧ tz < R.length ∧ TiOk R ∧ lsOr R t = lcL R tz := by
  by_cases h1 : LsOk R t
  · obtain ⟨tz, rfl, hto, hok⟩ := lsOk_cases h1
    exact ⟨tz, rfl, hto, hok, lsOr_yes hok hto⟩
  · rw [lsOr_no h1] at h; exact absurd rfl h
theorem lsOr_sm (R : List (List Int)) (t : Int) : (lsOr R t).length ≤ 1048576 := by
  by_cases h : LsOk R t
  · rw [lsOr_len h]; have := h.1.1; omega
  · rw [lsOr_no h]; exact Nat.zero_le _
/-- A station is met: it is the goal, has no path, or a link among the first m leads on. -/
def Met (R : List (List Int)) (D : Nat → Int) (tz k m : Nat) : Prop := k = tz ∨ D k < 0 ∨ ∃ j, j < m ∧ Hit (tg R) D k j
theorem met_next {R : List (List Int)} {D : Nat → Int} {tz k m : Nat} (h : ¬ Hit (tg R) D k m) : Met R D tz k (m + 1) ↔ Met R D tz k m := by
  unfold Met
  constructor
  · rintro (h1 | h1 | ⟨j, hj, h1⟩)
    · exact .inl h1
    · exact .inr (.inl h1)
    · rcases Nat.lt_succ_iff_lt_or_eq.1 hj with h2 | rfl
      · exact .inr (.inr ⟨j, h2, h1⟩)
      · exact absurd h1 h
  · rintro (h1 | h1 | ⟨j, hj, h1⟩)
    · exact .inl h1
    · exact .inr (.inl h1)
    · exact .inr (.inr ⟨j, by omega, h1⟩)
theorem met_more {R : List (List Int)} {D : Nat → Int} {tz k m : Nat} (h : Met R D tz k m) : Met R D tz k (m + 1) := by
  rcases h with h1 | h1 | ⟨j, hj, h1⟩
  · exact .inl h1
  · exact .inr (.inl h1)
  · exact .inr (.inr ⟨j, by omega, h1⟩)
set_option maxRecDepth 100000 in
set_option maxHeartbeats 8000000 in
theorem walkLeastCosts (a : Option Addr) (c : Nat) (ds : List Int) (w : World) (hx : Ints .u8 w w.heap.size a ds) (hw : ∀ n ∈ ds, (Lit.int .u8 n).wf = true) (hc : ds.length ≤ c) (hcm : c ≤ maxLen) :
    Calls Try.prog 4 #[.slice a ds.length c] w fun e w' => e = .returned (.bool true) ∧ Below w.heap.size w w' := by
  have hb := isByte_of_wf hw
  clear hw
  by_cases hl : ds.length ≤ 1048576
  · have hl' : ¬ (1048576 : Int) < (ds.length : Int) := by omega
    go_enter Try.func4, Try.ntmps4
    go_wp2_with fail
    refine (drawLeastCosts_any a c ds w hx hb hc hcm).mono ?_
    rintro e w1 ⟨at_, ct, R, t, rfl, h7, hct, ht, b1⟩
    have H7 := Lib.hid h7
    have T1 := Lib.hid ht
    have B1 := Lib.hid b1
    clear hx hb hc hcm ht b1 hl hl' hct
    have hR7 := h7.2
    clear h7
    obtain ⟨S, hS⟩ : ∃ S, S = lsOr R t := ⟨_, rfl⟩
    have HS := Lib.hid hS
    have HSl := Lib.hid (show S.length ≤ 1048576 by rw [hS]; exact lsOr_sm R t)
    clear hS
    go_wp2_with fail
    refine (leastCosts_any at_ ct R t w1 T1.out).mono ?_
    rw [← HS.out]
    rintro e w2 ⟨g2, c2, rfl, _, o2, b2⟩
    have G2 := Lib.hid (own_of_list o2).ints
    have T2 := Lib.hid (T1.out.next b2)
    have B2 := Lib.hid (Below.next B1.out (Nat.le_refl _) b2)
    clear o2 b2 T1 B1
    go_wp2_with fail
    refine (specLeastCosts_any at_ ct R t w2 T2.out (by omega)).mono ?_
    rw [← HS.out]
    rintro e w3 ⟨g3, c3, rfl, _, o3, b3⟩
    have W3 := Lib.hid (own_of_list o3).ints
    have G3 := Lib.hid (G2.out.next b3)
    have T3 := Lib.hid (T2.out.next b3)
    have B3 := Lib.hid (Below.next B2.out (Nat.le_refl _) b3)
    clear o3 b3 G2 T2 B2
    go_wp2_with fail
    refine (sameInts_any g2 g3 c2 c3 w3.heap.size w3.heap.size S S w3 G3.out W3.out HSl.out).mono ?_
    rintro e w4 ⟨rfl, n4, rfl⟩
    have B4 := Lib.hid (below_drewN B3.out n4)
    have G4 := Lib.hid (G3.out.drewN n4)
    have T4 := Lib.hid (T3.out.drewN n4)
    clear B3 G3 T3 W3
    generalize hw4 : w3.drewN n4 = w4 at B4 ⊢
    have hs4 : w3.heap.size = w4.heap.size := by rw [← hw4]; rfl
    rw [hw4, hs4] at G4 T4
    clear hw4 hs4
    have HAL := Lib.hid (aliveRt_from B4.out)
    by_cases h0 : S.length = 0
    · have z4 : ((S.length : Int) == 0) = true := by simp [h0]
      have h0' : (S.length : Int) = 0 := by omega
      go_wp2_with (go_at_call 18; (with_reducible refine HAL.out.mono ?_); rintro e w5 ⟨rfl, h5⟩)
      go_ret
      exact ⟨rfl, h5⟩
    · have z4 : ((S.length : Int) == 0) = false := by rw [beq_eq_false_iff_ne]; omega
      have h0' : ¬ (S.length : Int) = 0 := by omega
      obtain ⟨tz, rfl, hto, hok, hSe⟩ := lsOr_zero (R := R) (t := t) (by rw [← HS.out]; exact h0)
      have HD := Lib.hid (show IsD (tg R) R.length tz (el S) by rw [HS.out, hSe]; exact lcL_is R tz)
      have HDC := Lib.hid (show DcOk R.length (el S) by rw [HS.out, hSe]; exact lcL_ok hok)
      have HLS := Lib.hid (show S.length = R.length by rw [HS.out, hSe, lcL_len])
      have HOK := Lib.hid hok
      have HTO := Lib.hid hto
      obtain ⟨D, hDe⟩ : ∃ D, D = el S := ⟨_, rfl⟩
      rw [← hDe] at HD HDC
      have HDE := Lib.hid hDe
      obtain ⟨n, hn⟩ : ∃ n, n = R.length := ⟨_, rfl⟩
      have HN := Lib.hid hn
      have hSn : S.length = n := by rw [HLS.out, hn]
      rw [← hn] at HD HDC hto hR7 ⊢
      have HCX : Hid (∀ j, j < n → ∃ bo offo, g2 = some ⟨bo, offo, none⟩ ∧ w4.cell? ⟨bo, offo + j, none⟩ = some (.int .i64 (D j))) := fun j hj => by
        obtain ⟨bo, offo, e, _, h⟩ := G4.out.at_ (i := j) (by rw [hSn]; exact hj)
        rw [hDe]
        exact ⟨bo, offo, e, h⟩
      have HCT : Hid (∀ i j, i < n → j < n → ∃ b off ad cp b' off', at_ = some ⟨b, off, none⟩ ∧ w4.cell? ⟨b, off + i, none⟩ = some (.slice ad n cp) ∧ ad = some ⟨b', off', none⟩ ∧ w4.cell? ⟨b', off' + j, none⟩ = some (.int .i64 (tg R i j))) := fun i j hi hj => by
        obtain ⟨b, off, ad, cp, e, h1, _, _, h2⟩ := T4.out.at_ (i := i) (by rw [← HN.out]; exact hi)
        have hl := tiOk_row HOK.out (i := i) (by rw [← HN.out]; exact hi)
        rw [hl, ← HN.out] at h1
        obtain ⟨b', off', e', _, h3⟩ := h2.at_ (i := j) (by rw [hl, ← HN.out]; exact hj)
        exact ⟨b, off, ad, cp, b', off', e, h1, e', h3⟩
      have HTG : Hid (∀ i j, i < n → j < n → 0 ≤ tg R i j ∧ tg R i j ≤ 100) := fun i j hi hj => tiOk_in HOK.out (by rw [← HN.out]; exact hi) (by rw [← HN.out]; exact hj)
      have htoI : (tz : Int) < (n : Int) := by omega
      have HTON := Lib.hid hto
      rw [hSn] at z4 h0' ⊢
      clear h0 hto hok hSe hDe hn hSn HS HSl G4 T4 HAL
      go_wp2
      go_loopw [6] (fun x wr => ∃ k q : Nat, k ≤ n ∧ x = .int .i64 (k : Int) ∧ wr = w4.drewN q) (fun x _ => n - (intOf x).toNat)
      case atStart => exact ⟨0, 0, Nat.zero_le _, rfl, rfl⟩
      case round =>
        obtain ⟨k, q0, hk, rfl, rfl⟩ := hrel
        by_cases hlt : k < n
        · have hltI : (k : Int) < (n : Int) := by omega
          have HLT := Lib.hid hlt
          obtain ⟨bo, offo, rfl, hck⟩ := HCX.out k hlt
          obtain ⟨Dk, hDk⟩ : ∃ Dk, Dk = D k := ⟨_, rfl⟩
          have HDk := Lib.hid hDk
          rw [← hDk] at hck
          obtain ⟨b0, hb0⟩ : ∃ b0 : Bool, b0 = (((k : Int) == (tz : Int)) || decide (Dk < 0)) := ⟨_, rfl⟩
          have HB0 : Hid (b0 = true ↔ Met R D tz k 0) := by
            show _ ↔ _
            rw [hb0, hDk]
            unfold Met
            simp
            omega
          clear hlt hDk
          go_upto_region 12 with (fail)
          go_cut [7] from 37 to 103 (fun v wx => v = .bool b0 ∧ wx = w4.drewN q0)
          case first =>
            by_cases hkt : (k : Int) = (tz : Int)
            · have z1 : ((k : Int) == (tz : Int)) = true := by simp [hkt]
              rw [z1, Bool.true_or] at hb0
              go_wp2
              go_meet
              exact ⟨by rw [hb0], rfl⟩
            · have z1 : ((k : Int) == (tz : Int)) = false := by simp [hkt]
              rw [z1, Bool.false_or] at hb0
              go_wp2
              go_meet
              exact ⟨by rw [hb0], rfl⟩
          case rest =>
            obtain ⟨rfl, rfl⟩ := hcut
            go_wp2
            go_loopw [7, 8] (fun v x wr => ∃ (m q : Nat) (bm : Bool), m ≤ n ∧ x = .int .i64 (m : Int) ∧ v = .bool bm ∧ wr = w4.drewN q ∧ (bm = true ↔ Met R D tz k m)) (fun _ x _ => n - (intOf x).toNat)
            case atStart => exact ⟨0, q0, b0, Nat.zero_le _, rfl, rfl, rfl, HB0.out⟩
            case round =>
              obtain ⟨m, q, bm, hm, rfl, rfl, rfl, hbm⟩ := hrel
              have HBM := Lib.hid hbm
              clear hbm
              by_cases hlm : m < n
              · have hlmI : (m : Int) < (n : Int) := by omega
                have HLM := Lib.hid hlm
                obtain ⟨bo2, offo2, e2, hcm⟩ := HCX.out m hlm
                injection e2 with e2
                injection e2 with e2 e3 _
                subst e2 e3
                obtain ⟨b1, off1, ad1, cp1, b2, off2, rfl, hrow, rfl, hg⟩ := HCT.out k m HLT.out hlm
                have hG := HTG.out k m HLT.out hlm
                have hdj := HDC.out m hlm
                obtain ⟨G, hGe⟩ : ∃ G, G = tg R k m := ⟨_, rfl⟩
                obtain ⟨d, hde⟩ : ∃ d, d = D m := ⟨_, rfl⟩
                have HH : Hid (Hit (tg R) D k m ↔ (0 < G ∧ 0 ≤ d ∧ G + d = Dk)) := by
                  show _ ↔ _
                  rw [hGe, hde, HDk.out]; exact Iff.rfl
                have HTRI : Hid (0 < G → 0 ≤ d → 0 ≤ Dk ∧ Dk ≤ G + d) := fun h1 h2 => by
                  rw [hGe] at h1 ⊢
                  rw [hde] at h2 ⊢
                  rw [HDk.out]
                  exact HD.out.tri HLT.out HLM.out h1 h2
                rw [← hGe] at hg hG
                rw [← hde] at hcm hdj
                clear hlm hGe hde
                by_cases c0 : G = 0
                · have z0 : (G == 0) = true := by simp [c0]
                  have HNX : Hid (bm = true ↔ Met R D tz k (m + 1)) := by
                    show _ ↔ _
                    rw [met_next (fun h => by have := (HH.out.1 h).1; omega)]; exact HBM.out
                  clear hG hdj
                  go_wp2
                  go_roundw
                  case rel => exact ⟨m + 1, q, bm, by have := HLM.out; omega, by go_num, rfl, rfl, HNX.out⟩
                  case measure => have := HLM.out; simp [intOf]; omega
                · have z0 : (G == 0) = false := by simp [c0]
                  by_cases c1 : d < 0
                  · have HNX : Hid (bm = true ↔ Met R D tz k (m + 1)) := by
                      show _ ↔ _
                      rw [met_next (fun h => by have := (HH.out.1 h).2.1; omega)]; exact HBM.out
                    clear hG hdj
                    go_wp2
                    go_roundw
                    case rel => exact ⟨m + 1, q, bm, by have := HLM.out; omega, by go_num, rfl, rfl, HNX.out⟩
                    case measure => have := HLM.out; simp [intOf]; omega
                  · have htri := HTRI.out (by omega) (by omega)
                    have r1 := wrapW (n := G + d) (by omega)
                    have r1' := wrapW' (n := G + d) (by omega)
                    have hng : ¬ Dk < 0 := by omega
                    have hng2 : ¬ G + d < Dk := by omega
                    cases bm
                    · by_cases c2 : Dk = G + d
                      · have z2 : (Dk == G + d) = true := by simp [c2]
                        have HNX : Hid (Met R D tz k (m + 1)) := .inr (.inr ⟨m, by omega, HH.out.2 ⟨by omega, by omega, c2.symm⟩⟩)
                        clear hG hdj htri c2
                        go_wp2
                        go_quiet (fail)
                        go_wp2
                        go_roundw
                        case rel => exact ⟨m + 1, _, true, by have := HLM.out; omega, by go_num, rfl, rfl, fun _ => HNX.out, fun _ => rfl⟩
                        case measure => have := HLM.out; simp [intOf]; omega
                      · have z2 : (Dk == G + d) = false := by simp [c2]
                        have HNX : Hid (false = true ↔ Met R D tz k (m + 1)) := by
                          show _ ↔ _
                          rw [met_next (fun h => c2 (HH.out.1 h).2.2.symm)]; exact HBM.out
                        clear hG hdj htri c2
                        go_wp2
                        go_quiet (fail)
                        go_wp2
                        go_roundw
                        case rel => exact ⟨m + 1, _, false, by have := HLM.out; omega, by go_num, rfl, rfl, HNX.out⟩
                        case measure => have := HLM.out; simp [intOf]; omega
                    · have HNX : Hid (Met R D tz k (m + 1)) := met_more (HBM.out.1 rfl)
                      clear hG hdj htri
                      go_wp2
                      go_quiet (fail)
                      go_wp2
                      go_roundw
                      case rel => exact ⟨m + 1, _, true, by have := HLM.out; omega, by go_num, rfl, rfl, fun _ => HNX.out, fun _ => rfl⟩
                      case measure => have := HLM.out; simp [intOf]; omega
              · obtain rfl : n = m := by omega
                have hbm1 : bm = true := HBM.out.2 (by
                  by_cases e1 : k = tz
                  · exact .inl e1
                  · by_cases e2 : D k < 0
                    · exact .inr (.inl e2)
                    · obtain ⟨j, hj, h1, h2, h3⟩ := HD.out.met HLT.out (by omega) e1
                      exact .inr (.inr ⟨j, hj, h1, h2, h3⟩))
                subst hbm1
                go_wp2
                go_roundw
                case rel => exact ⟨k + 1, q, by have := HLT.out; omega, by go_num, rfl⟩
                case measure => have := HLT.out; simp [intOf]; omega
        · obtain rfl : n = k := by omega
          obtain ⟨bo, offo, rfl, hct⟩ := HCX.out tz HTON.out
          rw [HD.out.self HTON.out] at hct
          go_wp2
          go_ret
          exact ⟨rfl, below_drewN B4.out q0⟩
  · have hl' : (1048576 : Int) < (ds.length : Int) := by omega
    go_enter Try.func4, Try.ntmps4
    go_wp2
    go_ret
    exact ⟨rfl, Below.refl _ _⟩
end Go.Proofs.Ytnmhiagnmfpipaa
