/-
  The model of the size of the greatest group. Condition: a table that can be read.
-/
import Derived.Test.YtibgpgifdjefnaaDoorSk8
namespace Go.Proofs.YtibgpgifdjefnaaDoor
open Go.RowKit

theorem popQ_next (x i : Nat) : popQ x (i + 1) = popQ x i + (inQ x i).toNat := rfl
theorem popQ_le (x : Nat) : ∀ n, popQ x n ≤ n
  | 0 => Nat.le_refl _
  | n + 1 => by have := popQ_le x n; have : (inQ x n).toNat ≤ 1 := by cases inQ x n <;> decide
                rw [popQ]; omega
theorem bsQ_small (g : Nat → Nat → Bool) (ok : Nat → Bool) (n : Nat) : ∀ X, bsQ g ok n X ≤ n
  | 0 => Nat.zero_le _
  | X + 1 => by
    have h1 := bsQ_small g ok n X
    have h2 := popQ_le X n
    rw [bsQ]; split <;> omega
/-- A binary digit, as the model reckons it. -/
theorem dig_is (x i : Nat) : ((x : Int) / 2 ^ i).tmod 2 = (if inQ x i then 1 else 0 : Int) := by
  have h2 : ((x : Int) / 2 ^ i) = ((x / 2 ^ i : Nat) : Int) := by rw [Int.natCast_ediv, Int.natCast_pow]; rfl
  rw [h2]
  unfold inQ
  generalize x / 2 ^ i = v
  rw [Int.tmod_eq_emod_of_nonneg (by omega)]
  rcases Nat.mod_two_eq_zero_or_one v with h | h
  · simp [h]; omega
  · simp [h]; omega
set_option maxRecDepth 10000 in
set_option maxHeartbeats 8000000 in
theorem specGroupSize_is (a : Option Addr) (c B : Nat) (R : List (List Bool)) (w : World) (hx : TbL w B a R) (hl : R.length ≤ maxLen) :
    Calls Tryd.prog 16 #[.slice a R.length c] w fun e w' => e = .returned (.int .i64 (gpO R)) ∧ ∃ n, w' = w.drewN n := by
  have HX := Lib.hid hx
  have HC := Lib.hid (specConflictsValid_is a c B R (tbB R) w hx hl rfl)
  clear hx hl
  cases htb : tbB R
  · rw [gpO_no htb]
    rw [htb] at HC
    clear htb
    go_enter Tryd.func16, Tryd.ntmps16
    go_wp2_with (go_at_call 25; (with_reducible refine HC.out.mono ?_); rintro e w1 ⟨rfl, m, rfl⟩)
    go_ret
    exact ⟨rfl, m, rfl⟩
  · have HO := Lib.hid (tbB_ok htb)
    have h10 : R.length ≤ 10 := HO.out.1
    rw [gpO_yes htb]
    rw [htb] at HC
    obtain ⟨P, hP⟩ : ∃ P, P = 2 ^ R.length := ⟨_, rfl⟩
    have hP1 : P ≤ 1024 := by rw [hP]; exact Nat.pow_le_pow_right (n := 2) (by omega) h10
    have e0 : (2 : Int) ^ R.length = (P : Int) := by rw [hP]; exact (Int.natCast_pow 2 _).symm
    have e1 : IntKind.i64.wrap (P : Int) = (P : Int) := by rw [IntKind.wrap_i64]; omega
    have e2 : wrap64 (P : Int) = (P : Int) := by unfold wrap64; omega
    have HG := Lib.hid (show gpN R = bsQ (cf R) (fun x => okB (cf R) x R.length) R.length P by rw [hP]; rfl)
    clear htb hP
    go_enter Tryd.func16, Tryd.ntmps16
    go_wp2_with (go_at_call 25; (with_reducible refine HC.out.mono ?_); rintro e w1 ⟨rfl, m, rfl⟩)
    have HX1 := Lib.hid (HX.out.drewN m)
    obtain ⟨W0, hW⟩ : ∃ W0, W0 = w.drewN m := ⟨_, rfl⟩
    rw [← hW] at HX1 ⊢
    have HW := Lib.hid hW
    clear hW HX HC
    go_loop [3, 4] (fun b x => ∃ k q : Nat, k ≤ P ∧ x = .int .i64 (k : Int) ∧ b = .int .i64 (q : Int) ∧ q = bsQ (cf R) (fun x => okB (cf R) x R.length) R.length k) (fun _ x => P - (intOf x).toNat)
    case atStart => exact ⟨0, 0, Nat.zero_le _, rfl, rfl, rfl⟩
    case round =>
      obtain ⟨x, q, hxP, rfl, rfl, hq⟩ := hrel
      have HQ := Lib.hid hq
      have hq10 : q ≤ 10 := by rw [hq]; exact Nat.le_trans (bsQ_small _ _ _ _) h10
      clear hq
      by_cases hlt : x < P
      · go_wp2
        go_loop [5, 6, 7] (fun n ok i => ∃ (k y : Nat) (t : Bool), k ≤ R.length ∧ i = .int .i64 (k : Int) ∧ n = .int .i64 (y : Int) ∧ ok = .bool t ∧ t = okB (cf R) x k ∧ y ≤ k ∧ (t = true → y = popQ x k)) (fun _ _ i => R.length - (intOf i).toNat)
        case atStart => exact ⟨0, 0, true, Nat.zero_le _, rfl, rfl, rfl, rfl, Nat.le_refl _, fun _ => rfl⟩
        case round =>
          obtain ⟨i, y, t, hi, rfl, rfl, rfl, ht, hy, hyt⟩ := hrel
          have HT := Lib.hid ht
          have HY := Lib.hid hyt
          clear ht hyt
          by_cases hil : i < R.length
          · cases t
            · have HE := Lib.hid (show okB (cf R) x R.length = false from okB_false HT.out.symm (by omega))
              have HS := Lib.hid (show bsQ (cf R) (fun x => okB (cf R) x R.length) R.length (x + 1) = q by rw [bsQ, HE.out, HQ.out]; rfl)
              go_wp2
              go_round
              case rel => exact ⟨x + 1, q, by omega, by go_num, rfl, HS.out.symm⟩
              case measure => simp [intOf]; omega
            · have hd := dig_is x i
              have hyp := HY.out rfl
              cases hin : inQ x i
              · rw [hin] at hd
                have HN := Lib.hid (show true = okB (cf R) x (i + 1) by rw [okB, ← HT.out, hin]; rfl)
                have HP2 := Lib.hid (show y = popQ x (i + 1) by rw [popQ_next, hin, hyp]; rfl)
                have z : (((x : Int) / 2 ^ i).tmod 2 == 0) = true := by rw [hd]; rfl
                clear hin hd hyp
                go_wp2
                go_round
                case rel => exact ⟨i + 1, y, true, by omega, by go_num, rfl, rfl, HN.out, by omega, fun _ => HP2.out⟩
                case measure => simp [intOf]; omega
              · rw [hin] at hd
                have z : (((x : Int) / 2 ^ i).tmod 2 == 0) = false := by rw [hd]; rfl
                have HB := Lib.hid (show ∀ s, s = okJ (cf R) x i i → s = okB (cf R) x (i + 1) by intro s hs; rw [okB, ← HT.out, hin, hs]; rfl)
                have HP2 := Lib.hid (show y + 1 = popQ x (i + 1) by rw [popQ_next, hin, hyp]; rfl)
                have hy10 : y ≤ 10 := by omega
                obtain ⟨b, off, ad, cp, rfl, hrow, _, _, hbl⟩ := HX1.out.at_ hil
                have hrl := HO.out.2.1 i hil
                rw [hrl] at hrow
                have HL := Lib.hid hbl
                clear hin hd hyp hbl
                go_wp2
                clear z
                go_loop [6, 8] (fun ok j => ∃ (k : Nat) (t : Bool), k ≤ i ∧ j = .int .i64 (k : Int) ∧ ok = .bool t ∧ t = okJ (cf R) x i k) (fun _ j => i - (intOf j).toNat)
                case atStart => exact ⟨0, true, Nat.zero_le _, rfl, rfl, rfl⟩
                case round =>
                  obtain ⟨j, s, hj, rfl, rfl, hs⟩ := hrel
                  have HS := Lib.hid hs
                  clear hs
                  by_cases hjl : j < i
                  · obtain ⟨b2, off2, rfl, _, hc2⟩ := HL.out.at_ (i := j) (by omega)
                    change W0.cell? _ = some (.bool (cf R i j)) at hc2
                    have hjR : (j : Int) < (R.length : Int) := by omega
                    have hd := dig_is x j
                    have HN := Lib.hid (show okJ (cf R) x i (j + 1) = (okJ (cf R) x i j && (!inQ x j || cf R i j)) from rfl)
                    cases s
                    · have HE := Lib.hid (show false = okJ (cf R) x i (j + 1) by rw [HN.out, ← HS.out]; rfl)
                      clear hd
                      go_wp2
                      go_round
                      case rel => exact ⟨j + 1, false, by omega, by go_num, rfl, HE.out⟩
                      case measure => simp [intOf]; omega
                    · cases hin : inQ x j
                      · rw [hin] at hd
                        have z : (((x : Int) / 2 ^ j).tmod 2 == 0) = true := by rw [hd]; rfl
                        have HE := Lib.hid (show true = okJ (cf R) x i (j + 1) by rw [HN.out, ← HS.out, hin]; rfl)
                        clear hd hin
                        go_wp2
                        go_round
                        case rel => exact ⟨j + 1, true, by omega, by go_num, rfl, HE.out⟩
                        case measure => simp [intOf]; omega
                      · rw [hin] at hd
                        have z : (((x : Int) / 2 ^ j).tmod 2 == 0) = false := by rw [hd]; rfl
                        obtain ⟨g, hg⟩ : ∃ g, g = cf R i j := ⟨_, rfl⟩
                        rw [← hg] at hc2
                        have HE := Lib.hid (show g = okJ (cf R) x i (j + 1) by rw [HN.out, ← HS.out, hin, hg]; simp)
                        clear hd hin hg
                        go_wp2
                        go_round
                        case rel => exact ⟨j + 1, g, by omega, by go_num, rfl, HE.out⟩
                        case measure => simp [intOf]; omega
                  · obtain rfl : i = j := by omega
                    have HB2 := Lib.hid (HB.out s HS.out)
                    go_wp2
                    go_round
                    case rel => exact ⟨i + 1, y + 1, s, by omega, by go_num, by go_num, rfl, HB2.out, by omega, fun _ => HP2.out⟩
                    case measure => simp [intOf]; omega
          · obtain rfl : R.length = i := by omega
            cases t
            · have HS := Lib.hid (show bsQ (cf R) (fun x => okB (cf R) x R.length) R.length (x + 1) = q by rw [bsQ, ← HT.out, HQ.out]; rfl)
              go_wp2
              go_round
              case rel => exact ⟨x + 1, q, by omega, by go_num, rfl, HS.out.symm⟩
              case measure => simp [intOf]; omega
            · have hyp := HY.out rfl
              have HS := Lib.hid (show bsQ (cf R) (fun x => okB (cf R) x R.length) R.length (x + 1) = max q y by rw [bsQ, ← HT.out, HQ.out, hyp]; rfl)
              obtain ⟨m3, e3⟩ : ∃ m3, m3 = max q y := ⟨_, rfl⟩
              have hmx : (if ((y : Int) > (q : Int)) then (y : Int) else (q : Int)) = (m3 : Int) := by split <;> omega
              rw [← e3] at HS
              have HM3 := Lib.hid e3
              clear e3 hyp
              go_wp2
              go_round
              case rel => exact ⟨x + 1, m3, by omega, by go_num, by have := HM3.out; congr 1; split <;> omega, HS.out.symm⟩
              case measure => simp [intOf]; omega
      · obtain rfl : P = x := by omega
        have HE := Lib.hid (show (q : Int) = (gpN R : Int) by rw [HG.out, HQ.out])
        go_wp2
        go_ret
        exact ⟨ret_int HE.out, m, HW.out⟩
end Go.Proofs.YtibgpgifdjefnaaDoor
