/-
  The law of TurnSamples, walked: it returns true for every code, and writes into nothing that was there. No condition.
-/
import Derived.Test.YtmolpeemifngcaaSigDraw
import Derived.Test.YtmolpeemifngcaaSig4
import Derived.Test.YtmolpeemifngcaaLaw1
namespace Go.Proofs.Ytmolpeemifngcaa
open Go.RowKit

/-- What becomes of a signal that can be turned. -/
theorem turn_facts {ps : List Smp} {q : Int} (h : (turnOr ps q).length ≠ 0) : ∃ Q R : Nat, q = (Q : Int) ∧ Q ≤ 3 ∧ (4 - (Q : Int)).tmod 4 = (R : Int) ∧ R ≤ 3 ∧ turnOr (turnOr ps q) (R : Int) = ps ∧ pwOr (turnOr ps q) = pwOr ps ∧ (turnOr ps q).length = ps.length := by
  by_cases hc : sigOk ps = true ∧ 0 ≤ q ∧ q ≤ 3
  · obtain ⟨hok, h0, h3⟩ := hc
    obtain ⟨Q, rfl⟩ := Int.eq_ofNat_of_zero_le h0
    have hQ : Q ≤ 3 := by omega
    have e := turnOr_yes hok hQ
    have hok2 := sigOk_map hok Q
    refine ⟨Q, (4 - Q) % 4, rfl, hQ, ?_, by omega, ?_, ?_, by rw [e, List.length_map]⟩
    · rw [Int.tmod_eq_emod_of_nonneg (by omega)]; omega
    · rw [e, turnOr_yes hok2 (by omega), List.map_map]
      have hid : ∀ p : Smp, (turnN ((4 - Q) % 4) ∘ turnN Q) p = p := fun p => by
        show turnN ((4 - Q) % 4) (turnN Q p) = p
        rw [turnN_add]
        rcases (show Q = 0 ∨ Q = 1 ∨ Q = 2 ∨ Q = 3 by omega) with rfl | rfl | rfl | rfl
        · rfl
        · exact turnN_four p
        · exact turnN_four p
        · exact turnN_four p
      rw [List.map_congr_left (fun p _ => hid p), List.map_id']
    · rw [e]
      simp only [pwOr, hok, hok2, if_true, pw_map]
  · have : turnOr ps q = [] := by unfold turnOr; rw [if_neg hc]
    rw [this] at h
    exact absurd rfl h
set_option maxHeartbeats 2000000 in
theorem walkTurnSamples (a : Option Addr) (c : Nat) (ds : List Int) (w : World) (hx : Ints .u8 w w.heap.size a ds) (hw : ∀ n ∈ ds, (Lit.int .u8 n).wf = true) (hc : ds.length ≤ c) (hcm : c ≤ maxLen) :
    Calls Try.prog 7 #[.slice a ds.length c] w fun e w' => e = .returned (.bool true) ∧ Below w.heap.size w w' := by
  have hb := isByte_of_wf hw
  clear hw
  by_cases hl : ds.length ≤ 1048576
  · go_enter Try.func7, Try.ntmps7
    go_wp2_with fail
    refine (drawTurnSamples_any a c ds w hx hb hc hcm).mono ?_
    rintro e w1 ⟨ps, b0, c1, q, rfl, ⟨q1, q2⟩, l1, _, i1, b1⟩
    have X1 := Lib.hid i1
    have B1 := Lib.hid b1
    have L1 := Lib.hid l1
    clear hx hb hc hcm i1 b1 l1
    obtain ⟨S, hS⟩ : ∃ S, S = turnOr ps q := ⟨_, rfl⟩
    have HS := Lib.hid hS
    have HSl : Hid (S.length ≤ 300) := by show S.length ≤ 300; rw [hS]; have := turnOr_length ps q; have := L1.out; omega
    have z3 : decide (S = S) = true := by simp
    clear hS
    go_wp2_with fail
    refine (turnSamples_any (some ⟨b0, 0, none⟩) c1 ps q w1 X1.out).mono ?_
    rw [← HS.out]
    rintro e w2 ⟨v2, cv2, rfl, _, o2, b2⟩
    have Y2 := Lib.hid o2.sigs
    have X2 := Lib.hid (X1.out.next b2)
    have B2 := Lib.hid (Below.next B1.out (Nat.le_refl _) b2)
    clear o2 b2 X1 B1
    go_wp2_with fail
    refine (specTurnSamples_any (some ⟨b0, 0, none⟩) c1 ps q w2 X2.out (by have := L1.out; unfold maxLen; omega)).mono ?_
    rw [← HS.out]
    rintro e w3 ⟨v3, cv3, rfl, _, o3, b3⟩
    have U3 := Lib.hid o3.sigs
    have Y3 := Lib.hid (Y2.out.next b3)
    have X3 := Lib.hid (X2.out.next b3)
    have B3 := Lib.hid (Below.next B2.out (Nat.le_refl _) b3)
    clear o3 b3 Y2 X2 B2
    go_wp2_with fail
    refine (sameSignal_any v2 v3 cv2 cv3 w3.heap.size w3.heap.size S S w3 Y3.out U3.out (by have := HSl.out; omega)).mono ?_
    rintro e w4 ⟨rfl, n4, rfl⟩
    have B4 := Lib.hid (below_drewN B3.out n4)
    have Y4 : Hid (Sigs (w3.drewN n4) (w3.drewN n4).heap.size v2 S) := Y3.out
    have X4 : Hid (Sigs (w3.drewN n4) (w3.drewN n4).heap.size (some ⟨b0, 0, none⟩) ps) := X3.out
    clear Y3 X3 B3 U3
    generalize w3.drewN n4 = w4 at *
    by_cases hs0 : S.length = 0
    · have z4 : ((S.length : Int) == 0) = true := by simp [hs0]
      clear hs0
      go_wp2_with fail
      refine (alive_any w4).mono ?_
      rintro e w8 ⟨rfl, b8⟩
      have B8 := Lib.hid (Below.next B4.out (Nat.le_refl _) b8)
      clear b8
      go_wp2
      go_ret
      exact ⟨rfl, B8.out⟩
    · have z4 : ((S.length : Int) == 0) = false := by rw [beq_eq_false_iff_ne]; omega
      obtain ⟨Q, R, rfl, hQ, hR, hR3, f1, f2, f3⟩ := turn_facts (ps := ps) (q := q) (by rw [← HS.out]; exact hs0)
      rw [← HS.out] at f1 f2 f3
      have z5 : decide (ps = ps) = true := by simp
      have F1 := Lib.hid f1
      obtain ⟨P, hP⟩ : ∃ P, P = pwOr ps := ⟨_, rfl⟩
      rw [← hP] at f2
      have F2 := Lib.hid f2
      have HP := Lib.hid hP
      have z6 : (P == P) = true := by simp
      clear hs0 f1 f2 f3 hP q1 q2
      go_wp2_with fail
      try rw [hR]
      refine (turnSamples_any v2 cv2 S (R : Int) w4 Y4.out).mono ?_
      rw [F1.out]
      rintro e w5 ⟨v5, cv5, rfl, _, o5, b5⟩
      have V5 := Lib.hid o5.sigs
      have Y5 := Lib.hid (Y4.out.next b5)
      have X5 := Lib.hid (X4.out.next b5)
      have B5 := Lib.hid (Below.next B4.out (Nat.le_refl _) b5)
      clear o5 b5 Y4 X4 B4 hR
      go_wp2_with fail
      refine (sameSignal_any v5 (some ⟨b0, 0, none⟩) cv5 c1 w5.heap.size w5.heap.size ps ps w5 V5.out X5.out (by have := L1.out; omega)).mono ?_
      rintro e w6 ⟨rfl, n6, rfl⟩
      have B6 := Lib.hid (below_drewN B5.out n6)
      have Y6 : Hid (Sigs (w5.drewN n6) (w5.drewN n6).heap.size v2 S) := Y5.out
      have X6 : Hid (Sigs (w5.drewN n6) (w5.drewN n6).heap.size (some ⟨b0, 0, none⟩) ps) := X5.out
      clear Y5 X5 B5 V5
      generalize w5.drewN n6 = w6 at *
      go_wp2_with fail
      refine (signalPower_any v2 cv2 S w6 Y6.out).mono ?_
      rw [F2.out]
      rintro e w7 ⟨rfl, b7⟩
      have X7 := Lib.hid (X6.out.next b7)
      have B7 := Lib.hid (Below.next B6.out (Nat.le_refl _) b7)
      clear b7 X6 Y6
      go_wp2_with fail
      refine (signalPower_any (some ⟨b0, 0, none⟩) c1 ps w7 X7.out).mono ?_
      rw [← HP.out]
      rintro e w8 ⟨rfl, b8⟩
      have B8 := Lib.hid (Below.next B7.out (Nat.le_refl _) b8)
      clear b8
      go_wp2
      go_ret
      exact ⟨rfl, B8.out⟩
  · go_enter Try.func7, Try.ntmps7
    go_wp2
    go_ret
    exact ⟨rfl, Below.refl _ _⟩
end Go.Proofs.Ytmolpeemifngcaa
