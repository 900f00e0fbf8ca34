/-
  The law of the size of the greatest group, walked: it returns true for every list of bytes. Conditions: bytes that can be read; the table of package math/bits lies in its variable.
-/
import Derived.Test.YtibgpgifdjefnaaDoorSkLaw1
import Derived.Test.YtibgpgifdjefnaaDoorSk9
namespace Go.Proofs.YtibgpgifdjefnaaDoor
open Go.RowKit

/-- Whether any two of the first stations are in conflict. -/
def AnyC (R : List (List Bool)) (i j : Nat) : Prop := (∃ x y, x < i ∧ y < x ∧ cf R x y = true) ∨ ∃ y, y < j ∧ cf R i y = true
theorem anyC_next {R : List (List Bool)} {i j : Nat} : AnyC R i (j + 1) ↔ AnyC R i j ∨ cf R i j = true := by
  constructor
  · rintro (h | ⟨y, hy, hc⟩)
    · exact .inl (.inl h)
    · by_cases e : y = j
      · subst e; exact .inr hc
      · exact .inl (.inr ⟨y, by omega, hc⟩)
  · rintro ((h | ⟨y, hy, hc⟩) | h)
    · exact .inl h
    · exact .inr ⟨y, by omega, hc⟩
    · exact .inr ⟨j, by omega, h⟩
theorem anyC_up {R : List (List Bool)} {i : Nat} : AnyC R (i + 1) 0 ↔ AnyC R i i := by
  constructor
  · rintro (⟨x, y, hx, hy, hc⟩ | ⟨y, hy, _⟩)
    · by_cases e : x = i
      · subst e; exact .inr ⟨y, hy, hc⟩
      · exact .inl ⟨x, y, by omega, hy, hc⟩
    · exact absurd hy (Nat.not_lt_zero _)
  · rintro (⟨x, y, hx, hy, hc⟩ | ⟨y, hy, hc⟩)
    · exact .inl ⟨x, y, by omega, hy, hc⟩
    · exact .inl ⟨i, y, by omega, hy, hc⟩
set_option maxRecDepth 100000 in
set_option maxHeartbeats 8000000 in
theorem walkGroupSize (a : Option Addr) (c : Nat) (ds : List Int) (w : World) (hx : Ints .u8 w w.heap.size a ds) (hw : ∀ n ∈ ds, (Lit.int .u8 n).wf = true) (hc : ds.length ≤ c) (hcm : c ≤ maxLen) (hT : DbTab w) :
    Calls Tryd.prog 4 #[.slice a ds.length c] w fun e w' => e = .returned (.bool true) ∧ Below w.heap.size w w' := by
  have hb := isByte_of_wf hw
  have D0 := Lib.hid hT
  clear hw hT
  by_cases hl : ds.length ≤ 1048576
  · have hl' : ¬ (1048576 : Int) < (ds.length : Int) := by omega
    go_enter Tryd.func4, Tryd.ntmps4
    go_wp2_with fail
    refine (drawGroupSize_any a c ds w hx hb hc hcm).mono ?_
    rintro e w1 ⟨at_, ct, R, rfl, h9, ht, b1⟩
    have H9 := Lib.hid h9
    have T1 := Lib.hid ht
    have B1 := Lib.hid b1
    clear hx hb hc hcm h9 ht b1 hl hl'
    go_wp2_with fail
    refine (groupSize_is at_ ct R w1 T1.out (D0.out.next B1.out)).mono ?_
    rintro e w2 ⟨rfl, b2⟩
    have T2 := Lib.hid (T1.out.next b2)
    have B2 := Lib.hid (Below.next B1.out (Nat.le_refl _) b2)
    clear b2 T1 B1
    cases htb : tbB R
    · have HG := Lib.hid (specGroupSize_is at_ ct w2.heap.size R w2 T2.out (rowCap H9.out.1))
      rw [gpO_no htb] at HG ⊢
      clear htb
      go_wp2_with (first
        | (go_at_call 16; (with_reducible refine HG.out.mono ?_); rintro e w3 ⟨rfl, n3, rfl⟩)
        | (go_at_call 11; (with_reducible refine (alive_any _).mono ?_); rintro e w4 ⟨rfl, b4⟩
           have B4 := Lib.hid (Below.next (below_drewN B2.out n3) (Nat.le_refl _) b4)
           clear b4))
      go_ret
      exact ⟨rfl, B4.out⟩
    · have HG := Lib.hid (specGroupSize_is at_ ct w2.heap.size R w2 T2.out (rowCap H9.out.1))
      have HO := Lib.hid (tbB_ok htb)
      rw [gpO_yes htb] at HG ⊢
      obtain ⟨f1, f2, f3⟩ := gr_facts (gpN_is R)
      clear htb
      generalize gpN R = m at *
      have h10 : R.length ≤ 9 := H9.out.1
      have HF2 := Lib.hid f2
      have HF3 := Lib.hid f3
      have zz : ((m : Int) != (m : Int)) = false := by simp
      have zn : ¬ (m : Int) < 0 := by omega
      clear f2 f3
      go_wp2_with (go_at_call 16; (with_reducible refine HG.out.mono ?_); rintro e w3 ⟨rfl, n3, rfl⟩)
      have T3 := Lib.hid (T2.out.next (below_drewN (Below.refl _ _) n3))
      have B3 := Lib.hid (below_drewN B2.out n3)
      clear T2 B2 HG zz zn
      generalize w2.drewN n3 = w3 at *
      go_loop [5, 6] (fun t i => ∃ (k : Nat) (b : Bool), k ≤ R.length ∧ i = .int .i64 (k : Int) ∧ t = .bool b ∧ (b = true ↔ AnyC R k 0)) (fun _ i => R.length - (intOf i).toNat)
      case atStart => exact ⟨0, false, Nat.zero_le _, rfl, rfl, by
        constructor
        · intro h; cases h
        · rintro (⟨x, y, hx, _⟩ | ⟨y, hy, _⟩)
          · exact absurd hx (Nat.not_lt_zero _)
          · exact absurd hy (Nat.not_lt_zero _)⟩
      case round =>
        obtain ⟨i, b, hi, rfl, rfl, hab⟩ := hrel
        have HA := Lib.hid hab
        clear hab
        by_cases hil : i < R.length
        · obtain ⟨bb, off, ad, cp, rfl, hrow, _, _, hbl⟩ := T3.out.at_ hil
          rw [HO.out.2.1 i hil] at hrow
          have HBl := Lib.hid hbl
          clear hbl
          go_wp2
          go_loop [5, 7] (fun t j => ∃ (k : Nat) (b : Bool), k ≤ i ∧ j = .int .i64 (k : Int) ∧ t = .bool b ∧ (b = true ↔ AnyC R i k)) (fun _ j => i - (intOf j).toNat)
          case atStart => exact ⟨0, b, Nat.zero_le _, rfl, rfl, HA.out⟩
          case round =>
            obtain ⟨j, b1, hj, rfl, rfl, hab⟩ := hrel
            have HA1 := Lib.hid hab
            clear hab
            by_cases hjl : j < i
            · obtain ⟨b2, off2, rfl, _, hc2⟩ := HBl.out.at_ (i := j) (by rw [HO.out.2.1 i hil]; omega)
              change w3.cell? _ = some (.bool (cf R i j)) at hc2
              have hjR : (j : Int) < (R.length : Int) := by omega
              obtain ⟨g, hg⟩ : ∃ g, g = cf R i j := ⟨_, rfl⟩
              rw [← hg] at hc2
              cases b1
              · have HE : Hid (g = true ↔ AnyC R i (j + 1)) := by
                  show _ ↔ _
                  rw [anyC_next, ← HA1.out, hg]; simp
                clear hg
                go_wp2
                go_round
                case rel => exact ⟨j + 1, g, by omega, by go_num, rfl, HE.out⟩
                case measure => simp [intOf]; omega
              · have HE : Hid (true = true ↔ AnyC R i (j + 1)) := by
                  show _ ↔ _
                  rw [anyC_next, ← HA1.out]; simp
                clear hg
                go_wp2
                go_round
                case rel => exact ⟨j + 1, true, by omega, by go_num, rfl, HE.out⟩
                case measure => simp [intOf]; omega
            · obtain rfl : i = j := by omega
              have HE := Lib.hid (HA1.out.trans anyC_up.symm)
              go_wp2
              go_round
              case rel => exact ⟨i + 1, b1, by omega, by go_num, rfl, HE.out⟩
              case measure => simp [intOf]; omega
        · obtain rfl : R.length = i := by omega
          have HM : Hid (2 ≤ m ↔ b = true) := by
            show _ ↔ _
            rw [HF3.out, HA.out]
            constructor
            · rintro ⟨x, y, hx, hy, hc⟩; exact .inl ⟨x, y, hx, hy, hc⟩
            · rintro (⟨x, y, hx, hy, hc⟩ | ⟨y, hy, _⟩)
              · exact ⟨x, y, hx, hy, hc⟩
              · exact absurd hy (Nat.not_lt_zero _)
          have z1 : (m : Int) ≤ (R.length : Int) := by omega
          obtain ⟨x, hx⟩ : ∃ x, x = ((m : Int) == 0) := ⟨_, rfl⟩
          have hx2 : ((R.length : Int) == 0) = x := by
            rw [hx, Bool.eq_iff_iff, beq_iff_eq, beq_iff_eq]
            have := HF2.out
            omega
          have hx3 : decide ((2 : Int) ≤ (m : Int)) = b := by
            rw [Bool.eq_iff_iff, decide_eq_true_eq, ← HM.out]; omega
          have hx1 := hx.symm
          clear hx
          cases b
          · have g2 : ¬ (2 : Int) ≤ (m : Int) := of_decide_eq_false hx3
            clear hx3
            cases x
            · go_wp2
              go_ret
              exact ⟨rfl, B3.out⟩
            · go_wp2
              go_ret
              exact ⟨rfl, B3.out⟩
          · have g2 : (2 : Int) ≤ (m : Int) := of_decide_eq_true hx3
            clear hx3
            cases x
            · go_wp2
              go_ret
              exact ⟨rfl, B3.out⟩
            · go_wp2
              go_ret
              exact ⟨rfl, B3.out⟩
  · have hl' : (1048576 : Int) < (ds.length : Int) := by omega
    go_enter Tryd.func4, Tryd.ntmps4
    go_wp2
    go_ret
    exact ⟨rfl, Below.refl _ _⟩
end Go.Proofs.YtibgpgifdjefnaaDoor
