/-
  The laws of the exactness of CheckPasses and BurstDetected, walked: they return true for all arguments, and write into nothing that was there.
-/
import Derived.Test.YtnmpeeailljdaaaSpec8
import Derived.Test.YtnmpeeailljdaaaOwn
namespace Go.Proofs.Ytnmpeeailljdaaa
open Go.RowKit

set_option maxHeartbeats 1000000 in
theorem walkExactCheckPasses (a : Option Addr) (c : Nat) (xs : List Int) (g : Int) (w : World) (hx : Ints .i64 w w.heap.size a xs) (_hw : ∀ n ∈ xs, (Lit.int .i64 n).wf = true) :
    Calls Try.prog 15 #[.slice a xs.length c, .int .i64 g] w fun e w' => e = .returned (.bool true) ∧ Below w.heap.size w w' := by
  have HX := Lib.hid hx
  clear hx _hw
  by_cases hl : xs.length ≤ 1048576
  · have HL := Lib.hid (show xs.length ≤ maxLen by unfold maxLen; omega)
    obtain ⟨R, hR⟩ : ∃ R, R = passes g xs := ⟨_, rfl⟩
    have HR := Lib.hid hR
    clear hR
    have z1 : decide (xs = xs) = true := by simp
    have z2 : (R != R) = false := by simp
    go_enter Try.func15, Try.ntmps15
    go_wp2_with fail
    refine (toIntS_ints a c xs w HX.out hl).mono ?_
    rintro e w1 ⟨rfl, p1, b1⟩
    have P1 := Lib.hid p1
    have B1 := Lib.hid b1
    clear p1 b1
    go_wp2_with fail
    refine (specCheckPasses_any _ _ w1.heap.size xs g w1 P1.out HL.out).mono ?_
    rw [← HR.out]
    rintro e w2 ⟨rfl, rfl⟩
    go_wp2_with fail
    refine (toIntS_ints a c xs w1 (HX.out.next B1.out) hl).mono ?_
    rintro e w3 ⟨rfl, p3, b3⟩
    have P3 := Lib.hid p3
    have B3 := Lib.hid (Below.next B1.out (Nat.le_refl _) b3)
    clear p3 b3 P1
    go_wp2_with fail
    refine (checkPasses_any _ _ xs g w3 P3.out (Nat.le_refl _) HL.out).mono ?_
    rw [← HR.out]
    rintro e w4 ⟨rfl, b4⟩
    have P4 := Lib.hid (P3.out.next b4)
    have B4 := Lib.hid (Below.next B3.out (Nat.le_refl _) b4)
    clear b4 P3
    cases R
    all_goals
      go_wp2_with fail
      refine (toIntS_ints a c xs w4 (HX.out.next B4.out) hl).mono ?_
      rintro e w5 ⟨rfl, p5, b5⟩
      have P5 := Lib.hid p5
      have Q5 := Lib.hid (P4.out.next b5)
      have B5 := Lib.hid (Below.next B4.out (Nat.le_refl _) b5)
      clear p5 b5
      go_wp2_with fail
      refine (eqIntS_any _ _ _ _ w5.heap.size w5.heap.size xs xs w5 Q5.out P5.out hl).mono ?_
      rintro e w6 ⟨rfl, n6, rfl⟩
      go_wp2
      go_ret
      exact ⟨rfl, below_drewN B5.out n6⟩
  · go_enter Try.func15, Try.ntmps15
    go_wp2
    go_ret
    exact ⟨rfl, Below.refl _ _⟩
set_option maxHeartbeats 1000000 in
theorem walkExactBurstDetected (a : Option Addr) (c : Nat) (xs : List Int) (g i : Int) (a' : Option Addr) (c' : Nat) (bs : List Int) (w : World)
    (hx : Ints .i64 w w.heap.size a xs) (_hw : ∀ n ∈ xs, (Lit.int .i64 n).wf = true) (hy : Ints .i64 w w.heap.size a' bs) (_hw' : ∀ n ∈ bs, (Lit.int .i64 n).wf = true) :
    Calls Try.prog 16 #[.slice a xs.length c, .int .i64 g, .int .i64 i, .slice a' bs.length c'] w fun e w' => e = .returned (.bool true) ∧ Below w.heap.size w w' := by
  have HX := Lib.hid hx
  have HY := Lib.hid hy
  clear hx _hw hy _hw'
  by_cases hl : xs.length ≤ 1048576
  · by_cases hl' : bs.length ≤ 1048576
    · have HL := Lib.hid (show xs.length ≤ maxLen by unfold maxLen; omega)
      have HL' := Lib.hid (show bs.length ≤ maxLen by unfold maxLen; omega)
      obtain ⟨R, hR⟩ : ∃ R, R = burstB g xs i bs := ⟨_, rfl⟩
      have HR := Lib.hid hR
      clear hR
      have z1 : decide (xs = xs) = true := by simp
      have z3 : decide (bs = bs) = true := by simp
      have z2 : (R != R) = false := by simp
      go_enter Try.func16, Try.ntmps16
      go_wp2_with fail
      refine (toIntS_ints a c xs w HX.out hl).mono ?_
      rintro e w1 ⟨rfl, p1, b1⟩
      have P1 := Lib.hid p1
      have B1 := Lib.hid b1
      clear p1 b1
      go_wp2_with fail
      refine (toIntS_ints a' c' bs w1 (HY.out.next B1.out) hl').mono ?_
      rintro e w2 ⟨rfl, p2, b2⟩
      have P2 := Lib.hid p2
      have Q2 := Lib.hid (P1.out.next b2)
      have B2 := Lib.hid (Below.next B1.out (Nat.le_refl _) b2)
      clear p2 b2 P1
      go_wp2_with fail
      refine (specBurst_any _ _ _ _ xs bs g i w2 Q2.out P2.out HL.out HL'.out).mono ?_
      rw [← HR.out]
      rintro e w3 ⟨rfl, b3⟩
      have B3 := Lib.hid (Below.next B2.out (Nat.le_refl _) b3)
      clear b3 P2 Q2
      go_wp2_with fail
      refine (toIntS_ints a c xs w3 (HX.out.next B3.out) hl).mono ?_
      rintro e w4 ⟨rfl, p4, b4⟩
      have P4 := Lib.hid p4
      have B4 := Lib.hid (Below.next B3.out (Nat.le_refl _) b4)
      clear p4 b4
      go_wp2_with fail
      refine (toIntS_ints a' c' bs w4 (HY.out.next B4.out) hl').mono ?_
      rintro e w5 ⟨rfl, p5, b5⟩
      have Y5 := Lib.hid p5
      have X5 := Lib.hid (P4.out.next b5)
      have B5 := Lib.hid (Below.next B4.out (Nat.le_refl _) b5)
      clear p5 b5 P4
      go_wp2_with fail
      refine (burst_any _ _ _ _ xs bs g i w5 X5.out Y5.out (Nat.le_refl _) HL.out).mono ?_
      rw [← HR.out]
      rintro e w6 ⟨rfl, b6⟩
      have X6 := Lib.hid (X5.out.next b6)
      have Y6 := Lib.hid (Y5.out.next b6)
      have B6 := Lib.hid (Below.next B5.out (Nat.le_refl _) b6)
      clear b6 X5 Y5
      cases R
      all_goals
        go_wp2_with fail
        refine (toIntS_ints a c xs w6 (HX.out.next B6.out) hl).mono ?_
        rintro e w7 ⟨rfl, p7, b7⟩
        have P7 := Lib.hid p7
        have X7 := Lib.hid (X6.out.next b7)
        have Y7 := Lib.hid (Y6.out.next b7)
        have B7 := Lib.hid (Below.next B6.out (Nat.le_refl _) b7)
        clear p7 b7
        go_wp2_with fail
        refine (eqIntS_any _ _ _ _ w7.heap.size w7.heap.size xs xs w7 X7.out P7.out hl).mono ?_
        rintro e w8 ⟨rfl, n8, rfl⟩
        have Y8 : Hid (Ints .i64 (w7.drewN n8) (w7.drewN n8).heap.size _ bs) := Y7.out
        have B8 := Lib.hid (below_drewN B7.out n8)
        clear P7 X7 Y7
        go_wp2_with fail
        refine (toIntS_ints a' c' bs _ (HY.out.next B8.out) hl').mono ?_
        rintro e w9 ⟨rfl, p9, b9⟩
        have P9 := Lib.hid p9
        have Y9 := Lib.hid (Ints.next (w := w7.drewN n8) Y8.out b9)
        have B9 := Lib.hid (Below.next B8.out (Nat.le_refl _) b9)
        clear p9 b9
        go_wp2_with fail
        refine (eqIntS_any _ _ _ _ w9.heap.size w9.heap.size bs bs w9 Y9.out P9.out hl').mono ?_
        rintro e w10 ⟨rfl, n10, rfl⟩
        go_wp2
        go_ret
        exact ⟨rfl, below_drewN B9.out n10⟩
    · go_enter Try.func16, Try.ntmps16
      go_wp2
      go_ret
      exact ⟨rfl, Below.refl _ _⟩
  · go_enter Try.func16, Try.ntmps16
    go_wp2
    go_ret
    exact ⟨rfl, Below.refl _ _⟩
end Go.Proofs.Ytnmpeeailljdaaa
