/-
  The law of HammingDistance's exactness, walked: it returns true for every two lists, and writes into nothing that was there.
-/
import Derived.Test.YtnedhpodfjlnmaaSpec2
namespace Go.Proofs.Ytnedhpodfjlnmaa
open Go.RowKit

theorem Ints.next {k : IntKind} {w w' : World} {a : Option Addr} {xs : List Int} (h : Ints k w w.heap.size a xs) (hb : Below w.heap.size w w') : Ints k w' w'.heap.size a xs := (h.below hb).more hb.size
theorem Below.next {B : Nat} {w w' w'' : World} (h : Below B w w') (hB : B ≤ w.heap.size) (h' : Below w'.heap.size w' w'') : Below B w w'' := h.trans (h'.mono (Nat.le_trans hB h.size))
theorem toIntS_ints (a : Option Addr) (c : Nat) (xs : List Int) (w : World) (hx : Ints .i64 w w.heap.size a xs) (hl : xs.length ≤ 1048576) :
    Calls Try.prog 32 #[.slice a xs.length c] w fun e w' => e = .returned (.slice (some ⟨w.heap.size, 0, none⟩) xs.length xs.length) ∧
      Ints .i64 w' w'.heap.size (some ⟨w.heap.size, 0, none⟩) xs ∧ Below w.heap.size w w' :=
  (toIntS_any a c w.heap.size xs w hx (Nat.le_refl _) hl).mono fun _ _ ⟨h1, h2, h3⟩ => ⟨h1, ints_of_row h2 rfl h2.lt, h3⟩

set_option maxHeartbeats 1000000 in
theorem walkExactHamming (a : Option Addr) (c : Nat) (xs : List Int) (a' : Option Addr) (c' : Nat) (ys : List Int) (w : World)
    (hx : Ints .i64 w w.heap.size a xs) (_hw : ∀ n ∈ xs, (Lit.int .i64 n).wf = true) (hy : Ints .i64 w w.heap.size a' ys) (_hw' : ∀ n ∈ ys, (Lit.int .i64 n).wf = true) :
    Calls Try.prog 12 #[.slice a xs.length c, .slice a' ys.length c'] w fun e w' => e = .returned (.bool true) ∧ Below w.heap.size w w' := by
  have HX := Lib.hid hx
  have HY := Lib.hid hy
  clear hx hy _hw _hw'
  by_cases hl : xs.length ≤ 1048576
  · by_cases hl' : ys.length ≤ 1048576
    · have HL := Lib.hid (show xs.length ≤ maxLen by unfold maxLen; omega)
      have HL' := Lib.hid (show ys.length ≤ maxLen by unfold maxLen; omega)
      go_enter Try.func12, Try.ntmps12
      go_wp2_with fail
      refine (toIntS_ints a c xs w HX.out hl).mono ?_
      rintro e w1 ⟨rfl, p1, b1⟩
      have P1 := Lib.hid p1
      have B1 := Lib.hid b1
      clear p1 b1
      go_wp2_with fail
      refine (toIntS_ints a' c' ys w1 (HY.out.next B1.out) hl').mono ?_
      rintro e w2 ⟨rfl, p2, b2⟩
      have P2 := Lib.hid p2
      have B2 := Lib.hid (Below.next B1.out (Nat.le_refl _) b2)
      have P1' := Lib.hid (P1.out.next b2)
      clear p2 b2
      go_wp2_with fail
      refine (specHamming_any _ _ _ _ w2.heap.size w2.heap.size xs ys w2 P1'.out P2.out HL.out HL'.out).mono ?_
      rintro e w3 ⟨rfl, n, rfl⟩
      clear P1 P1' P2 B1
      have B3 := Lib.hid (below_drewN B2.out n)
      generalize w2.drewN n = w3 at *
      go_wp2_with fail
      refine (toIntS_ints a c xs w3 (HX.out.next B3.out) hl).mono ?_
      rintro e w4 ⟨rfl, p4, b4⟩
      have P4 := Lib.hid p4
      have B4 := Lib.hid (Below.next B3.out (Nat.le_refl _) b4)
      clear p4 b4
      go_wp2_with fail
      refine (toIntS_ints a' c' ys w4 (HY.out.next B4.out) hl').mono ?_
      rintro e w5 ⟨rfl, p5, b5⟩
      have P5 := Lib.hid p5
      have P4' := Lib.hid (P4.out.next b5)
      have B5 := Lib.hid (Below.next B4.out (Nat.le_refl _) b5)
      clear p5 b5
      go_wp2_with fail
      refine (hamming_any _ _ _ _ w5.heap.size w5.heap.size xs ys w5 P4'.out P5.out (Nat.le_refl _) (Nat.le_refl _)).mono ?_
      rintro e w6 ⟨rfl, b6⟩
      have Q4 := Lib.hid (P4'.out.next b6)
      have Q5 := Lib.hid (P5.out.next b6)
      have B6 := Lib.hid (Below.next B5.out (Nat.le_refl _) b6)
      clear b6
      go_wp2_with fail
      refine (toIntS_ints a c xs w6 (HX.out.next B6.out) hl).mono ?_
      rintro e w7 ⟨rfl, p7, b7⟩
      have P7 := Lib.hid p7
      have Q4' := Lib.hid (Q4.out.next b7)
      have Q5' := Lib.hid (Q5.out.next b7)
      have B7 := Lib.hid (Below.next B6.out (Nat.le_refl _) b7)
      clear p7 b7
      go_wp2_with fail
      refine (eqIntS_any _ _ _ _ w7.heap.size w7.heap.size xs xs w7 Q4'.out P7.out hl).mono ?_
      rintro e w8 ⟨rfl, n8, rfl⟩
      have B8 := Lib.hid (below_drewN B7.out n8)
      have Q58 := Lib.hid (Q5'.out.drewN n8)
      clear Q5' P7 Q4'
      have hz : decide (xs = xs) = true := by simp
      have hz' : decide (ys = ys) = true := by simp
      go_wp2_with fail
      refine (toIntS_ints a' c' ys _ (HY.out.next B8.out) hl').mono ?_
      rintro e w9 ⟨rfl, p9, b9⟩
      have P9 := Lib.hid p9
      have Q9 := Lib.hid (Ints.next (w := w7.drewN n8) Q58.out b9)
      have B9 := Lib.hid (Below.next B8.out (Nat.le_refl _) b9)
      clear p9 b9
      go_wp2_with fail
      refine (eqIntS_any _ _ _ _ w9.heap.size w9.heap.size ys ys w9 Q9.out P9.out hl').mono ?_
      rintro e w10 ⟨rfl, n10, rfl⟩
      go_wp2
      go_ret
      exact ⟨rfl, below_drewN B9.out n10⟩
    · go_enter Try.func12, Try.ntmps12
      go_wp2
      go_ret
      exact ⟨rfl, Below.refl _ _⟩
  · go_enter Try.func12, Try.ntmps12
    go_wp2
    go_ret
    exact ⟨rfl, Below.refl _ _⟩
end Go.Proofs.Ytnedhpodfjlnmaa
