/-
  The law of ScrambleBits, walked: it returns true for every code, and writes into nothing that was there.
-/
import Derived.Test.YtamfjmfffpdcfaaRegLaw4
namespace Go.Proofs.Ytamfjmfffpdcfaa
open Go.RowKit

theorem ints_made (w : World) (n : Nat) : Ints .i64 (w.alloc (.cells (madeCells #[.int .i64 0] n) 3)) (w.heap.size + 1) (some ⟨w.heap.size, 0, none⟩) (zeros n) := fun _ =>
  ⟨w.heap.size, 0, rfl, by omega, fun i hi => by
    rw [zeros_length] at hi
    rw [Nat.zero_add, cell_of_row _ _ _ _ _ _ (heap_alloc_last w _), zeros_el]
    simp [madeCells, hi, Nat.mod_one]⟩

set_option maxHeartbeats 2000000 in
theorem walkScrambleBits (a : Option Addr) (c : Nat) (ds : List Int) (w : World) (hx : Ints .u8 w w.heap.size a ds) (hw : ∀ n ∈ ds, (Lit.int .u8 n).wf = true) (hc : ds.length ≤ c) (hcm : c ≤ maxLen) :
    Calls Try.prog 5 #[.slice a ds.length c] w fun e w' => e = .returned (.bool true) ∧ Below w.heap.size w w' := by
  have hb := isByte_of_wf hw
  clear hw
  by_cases hl : ds.length ≤ 1048576
  · go_enter Try.func5, Try.ntmps5
    go_wp2_with fail
    refine (drawScramble_any a c ds w hx hb hc hcm).mono ?_
    rintro e w1 ⟨xs, a1, c1, g, s, rfl, l1, hg, hs, i1, b1⟩
    have I1 := Lib.hid i1
    have B1 := Lib.hid b1
    clear hx hb hc hcm i1 b1 hg hs
    have HL1 := Lib.hid (show xs.length ≤ maxLen by unfold maxLen; omega)
    obtain ⟨S, hS⟩ : ∃ S, S = scrOr xs g s := ⟨_, rfl⟩
    have HSl := Lib.hid (show S.length ≤ 1048576 by rw [hS]; exact scrOr_lenR _ _ _)
    have HS := Lib.hid hS
    have z3 : decide (S = S) = true := by simp
    clear hS
    go_wp2_with fail
    refine (scramble_any a1 c1 xs g s w1 I1.out).mono ?_
    rw [← HS.out]
    rintro e w2 ⟨v2, cv2, rfl, _, o2, b2⟩
    have V2 := Lib.hid (own_of_list o2).ints
    have I2 := Lib.hid (I1.out.next b2)
    have B2 := Lib.hid (Below.next B1.out (Nat.le_refl _) b2)
    clear o2 b2 I1 B1
    go_wp2_with fail
    refine (specScramble_any a1 c1 xs g s w2 I2.out HL1.out).mono ?_
    rw [← HS.out]
    rintro e w3 ⟨v3, cv3, rfl, o3, b3⟩
    have U3 := Lib.hid (own_of_list o3).ints
    have V3 := Lib.hid (V2.out.next b3)
    have I3 := Lib.hid (I2.out.next b3)
    have B3 := Lib.hid (Below.next B2.out (Nat.le_refl _) b3)
    clear o3 b3 V2 I2 B2
    go_wp2_with fail
    refine (sameInts_any v2 v3 cv2 cv3 w3.heap.size w3.heap.size S S w3 V3.out U3.out HSl.out).mono ?_
    rintro e w4 ⟨rfl, n4, rfl⟩
    have B4 := Lib.hid (below_drewN B3.out n4)
    have V4 : Hid (Ints .i64 (w3.drewN n4) (w3.drewN n4).heap.size v2 S) := V3.out
    have I4 : Hid (Ints .i64 (w3.drewN n4) (w3.drewN n4).heap.size a1 xs) := I3.out
    clear B3 V3 I3 U3 z3
    generalize w3.drewN n4 = w5 at *
    by_cases h0 : S.length = 0
    · have heq : ((S.length : Int) == 0) = true := by rw [h0]; rfl
      clear h0
      go_wp2_with fail
      refine (alive_any w5).mono ?_
      rintro e w6 ⟨rfl, b6⟩
      have B6 := Lib.hid (Below.next B4.out (Nat.le_refl _) b6)
      clear b6
      go_wp2
      go_ret
      exact ⟨rfl, B6.out⟩
    · have heq : ((S.length : Int) == 0) = false := by rw [beq_eq_false_iff_ne]; omega
      have hbo : bitsOk xs = true := by
        cases hp : bitsOk xs
        · exact absurd (by rw [HS.out, scrOr_bad hp]; rfl) h0
        · rfl
      have hro : regOk g s = true := by
        cases hp : regOk g s
        · exact absurd (by rw [HS.out, scrOr_reg hp]; rfl) h0
        · rfl
      have HBk := Lib.hid (show scrOr S g s = xs by rw [HS.out]; exact scr_back hbo hro)
      have HZr := Lib.hid (show scrOr (zeros xs.length) g s = outsOr g s xs.length from scr_zeros (bitsOk_length hbo) hro)
      have HOl := Lib.hid (show (outsOr g s xs.length).length ≤ 1048576 by rw [(scr_pair hbo hro).2]; omega)
      have hmk := run_make_row' (P := Try.prog) 25 3 (.int .i64 0) 8 Try.underlying25 Try.infoInt rfl .i64 .i64 xs.length (by omega) (by omega)
      have HX40 := Lib.hid (show xs.length ≤ 1048576 by omega)
      clear h0 hbo hro
      go_wp2_with fail
      refine (scramble_any v2 cv2 S g s w5 V4.out).mono ?_
      rw [HBk.out]
      rintro e w6 ⟨v6, cv6, rfl, _, o6, b6⟩
      have P6 := Lib.hid (own_of_list o6).ints
      have I6 := Lib.hid (I4.out.next b6)
      have B6 := Lib.hid (Below.next B4.out (Nat.le_refl _) b6)
      clear o6 b6 V4 I4 B4
      have z4 : decide (xs = xs) = true := by simp
      go_wp2_with fail
      refine (sameInts_any v6 a1 cv6 c1 w6.heap.size w6.heap.size xs xs w6 P6.out I6.out HX40.out).mono ?_
      rintro e w7 ⟨rfl, n7, rfl⟩
      have B7 := Lib.hid (below_drewN B6.out n7)
      clear P6 I6 B6
      generalize w6.drewN n7 = w8 at *
      have HSc := Lib.hid (scramble_any (some ⟨w8.heap.size, 0, none⟩) xs.length (zeros xs.length) g s (w8.alloc (.cells (madeCells #[.int .i64 0] xs.length) 3)) ((ints_made w8 xs.length).more (by simp)))
      rw [zeros_length] at HSc
      go_wp2_with fail
      refine HSc.out.mono ?_
      rw [HZr.out]
      rintro e w9 ⟨v9, cv9, rfl, _, o9, b9⟩
      have P9 := Lib.hid (own_of_list o9).ints
      have B9 := Lib.hid (Below.next (B7.out.alloc B7.out.size _) (Nat.le_refl _) b9)
      clear o9 b9
      go_wp2_with fail
      refine (shiftBits_any g s xs.length w9).mono ?_
      rintro e w10 ⟨v10, cv10, rfl, _, o10, b10⟩
      have Q10 := Lib.hid (own_of_list o10).ints
      have P10 := Lib.hid (P9.out.next b10)
      have B10 := Lib.hid (Below.next B9.out (Nat.le_refl _) b10)
      clear o10 b10
      have z5 : decide (outsOr g s xs.length = outsOr g s xs.length) = true := by simp
      go_wp2_with fail
      refine (sameInts_any v9 v10 cv9 cv10 w10.heap.size w10.heap.size _ _ w10 P10.out Q10.out HOl.out).mono ?_
      rintro e w11 ⟨rfl, n11, rfl⟩
      go_wp2
      go_ret
      exact ⟨rfl, below_drewN B10.out n11⟩
  · go_enter Try.func5, Try.ntmps5
    go_wp2
    go_ret
    exact ⟨rfl, Below.refl _ _⟩
end Go.Proofs.Ytamfjmfffpdcfaa
