/-
  The exact laws of SignalValid and SignalPower, walked: they return true for every list, and write into nothing that was there. Condition: the list's length can be.
-/
import Derived.Test.YtmolpeemifngcaaSig1
import Derived.Test.YtmolpeemifngcaaSig2
namespace Go.Proofs.Ytmolpeemifngcaa
open Go.RowKit

set_option maxHeartbeats 2000000 in
theorem walkExactSignalValid (a : Option Addr) (c : Nat) (ps : List Smp) (w : World) (hx : Sigs w w.heap.size a ps) (hc : ps.length ≤ c) (hm : c ≤ maxLen) :
    Calls Try.prog 10 #[.slice a ps.length c] w fun e w' => e = .returned (.bool true) ∧ Below w.heap.size w w' := by
  have HX := Lib.hid hx
  have HM := Lib.hid (Nat.le_trans hc hm)
  have HZ := Lib.hid (szSampleS_any a c ps.length w HM.out)
  clear hx hc hm
  by_cases hl : ps.length ≤ 1048576
  · rw [if_pos hl] at HZ
    have hl' : ¬ ((1048576 : Int) - (ps.length : Int) < 0) := by omega
    obtain ⟨L, hL⟩ : ∃ L, L = (1048576 : Int) - (ps.length : Int) := ⟨_, rfl⟩
    rw [← hL] at hl' HZ
    have z1 : decide (ps = ps) = true := by simp
    clear hL
    go_enter Try.func10, Try.ntmps10
    go_wp2_with fail
    refine HZ.out.mono ?_
    rintro e w' ⟨rfl, rfl⟩
    go_wp2_with fail
    refine (toSampleS_sigs a c ps w HX.out hl).mono ?_
    rintro e w1 ⟨v1, rfl, p1, b1⟩
    have P1 := Lib.hid p1
    have B1 := Lib.hid b1
    clear p1 b1 hl'
    go_wp2_with fail
    refine (specSignalValid_any _ _ w1.heap.size ps w1 P1.out HM.out).mono ?_
    rintro e w2 ⟨rfl, rfl⟩
    go_wp2_with fail
    refine (toSampleS_sigs a c ps w1 (HX.out.next B1.out) hl).mono ?_
    rintro e w3 ⟨v3, rfl, p3, b3⟩
    have P3 := Lib.hid p3
    have B3 := Lib.hid (Below.next B1.out (Nat.le_refl _) b3)
    clear p3 b3 P1
    go_wp2_with fail
    refine (signalValid_any _ _ ps w3 P3.out).mono ?_
    rintro e w4 ⟨rfl, b4⟩
    have P4 := Lib.hid (P3.out.next b4)
    have B4 := Lib.hid (Below.next B3.out (Nat.le_refl _) b4)
    have z2 : (sigOk ps != sigOk ps) = false := by simp
    clear b4 P3
    go_wp2_with fail
    refine (toSampleS_sigs a c ps w4 (HX.out.next B4.out) hl).mono ?_
    rintro e w5 ⟨v5, rfl, p5, b5⟩
    have P5 := Lib.hid p5
    have Q5 := Lib.hid (P4.out.next b5)
    have B5 := Lib.hid (Below.next B4.out (Nat.le_refl _) b5)
    clear p5 b5 P4
    go_wp2_with fail
    refine (eqSampleS_any _ _ _ _ w5.heap.size w5.heap.size ps ps w5 Q5.out P5.out (Nat.le_refl _) (Nat.le_refl _) hl).mono ?_
    rintro e w6 ⟨rfl, b6⟩
    have B6 := Lib.hid (Below.next B5.out (Nat.le_refl _) b6)
    clear b6
    go_wp2
    go_ret
    exact ⟨rfl, B6.out⟩
  · rw [if_neg hl] at HZ
    go_enter Try.func10, Try.ntmps10
    go_wp2_with fail
    refine HZ.out.mono ?_
    rintro e w' ⟨rfl, rfl⟩
    go_wp2
    go_ret
    exact ⟨rfl, Below.refl _ _⟩

set_option maxHeartbeats 2000000 in
theorem walkExactSignalPower (a : Option Addr) (c : Nat) (ps : List Smp) (w : World) (hx : Sigs w w.heap.size a ps) (hc : ps.length ≤ c) (hm : c ≤ maxLen) :
    Calls Try.prog 14 #[.slice a ps.length c] w fun e w' => e = .returned (.bool true) ∧ Below w.heap.size w w' := by
  have HX := Lib.hid hx
  have HM := Lib.hid (Nat.le_trans hc hm)
  have HZ := Lib.hid (szSampleS_any a c ps.length w HM.out)
  clear hx hc hm
  by_cases hl : ps.length ≤ 1048576
  · rw [if_pos hl] at HZ
    have hl' : ¬ ((1048576 : Int) - (ps.length : Int) < 0) := by omega
    obtain ⟨L, hL⟩ : ∃ L, L = (1048576 : Int) - (ps.length : Int) := ⟨_, rfl⟩
    rw [← hL] at hl' HZ
    have z1 : decide (ps = ps) = true := by simp
    clear hL
    go_enter Try.func14, Try.ntmps14
    go_wp2_with fail
    refine HZ.out.mono ?_
    rintro e w' ⟨rfl, rfl⟩
    go_wp2_with fail
    refine (toSampleS_sigs a c ps w HX.out hl).mono ?_
    rintro e w1 ⟨v1, rfl, p1, b1⟩
    have P1 := Lib.hid p1
    have B1 := Lib.hid b1
    clear p1 b1 hl'
    go_wp2_with fail
    refine (specSignalPower_any _ _ w1.heap.size ps w1 P1.out HM.out).mono ?_
    rintro e w2 ⟨rfl, n2, rfl⟩
    have B2 := Lib.hid (below_drewN B1.out n2)
    generalize w1.drewN n2 = w2 at *
    go_wp2_with fail
    refine (toSampleS_sigs a c ps w2 (HX.out.next B2.out) hl).mono ?_
    rintro e w3 ⟨v3, rfl, p3, b3⟩
    have P3 := Lib.hid p3
    have B3 := Lib.hid (Below.next B2.out (Nat.le_refl _) b3)
    clear p3 b3 P1
    go_wp2_with fail
    refine (signalPower_any _ _ ps w3 P3.out).mono ?_
    rintro e w4 ⟨rfl, b4⟩
    have P4 := Lib.hid (P3.out.next b4)
    have B4 := Lib.hid (Below.next B3.out (Nat.le_refl _) b4)
    have z2 : (pwOr ps != pwOr ps) = false := by simp
    clear b4 P3
    go_wp2_with fail
    refine (toSampleS_sigs a c ps w4 (HX.out.next B4.out) hl).mono ?_
    rintro e w5 ⟨v5, rfl, p5, b5⟩
    have P5 := Lib.hid p5
    have Q5 := Lib.hid (P4.out.next b5)
    have B5 := Lib.hid (Below.next B4.out (Nat.le_refl _) b5)
    clear p5 b5 P4
    go_wp2_with fail
    refine (eqSampleS_any _ _ _ _ w5.heap.size w5.heap.size ps ps w5 Q5.out P5.out (Nat.le_refl _) (Nat.le_refl _) hl).mono ?_
    rintro e w6 ⟨rfl, b6⟩
    have B6 := Lib.hid (Below.next B5.out (Nat.le_refl _) b6)
    clear b6
    go_wp2
    go_ret
    exact ⟨rfl, B6.out⟩
  · rw [if_neg hl] at HZ
    go_enter Try.func14, Try.ntmps14
    go_wp2_with fail
    refine HZ.out.mono ?_
    rintro e w' ⟨rfl, rfl⟩
    go_wp2
    go_ret
    exact ⟨rfl, Below.refl _ _⟩
end Go.Proofs.Ytmolpeemifngcaa
