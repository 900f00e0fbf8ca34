/-
  The laws of InterleaveBits and DeinterleaveBits, walked: they return true for every code, and write into nothing that was there. No condition.
-/
import Derived.Test.YtmhngakfjlkchaaIlvDraw
import Derived.Test.YtmhngakfjlkchaaLaw1
namespace Go.Proofs.Ytmhngakfjlkchaa
open Go.RowKit

theorem div_of_mul8 {R C n : Nat} (hR : 1 ≤ R) (h : n = R * C) : n / R = C := by rw [h]; exact Nat.mul_div_cancel_left C hR
/-- What becomes of a list that can be interleaved. -/
theorem ilv_facts {xs : List Int} {r : Int} (h : tabOk xs r = true) (h0 : (ilvOr xs r).length ≠ 0) : ∃ R C : Nat, r = (R : Int) ∧ (1 ≤ R ∧ R ≤ 32) ∧ xs.length = R * C ∧ C ≤ 1024 ∧
    dlvOr (ilvOr xs r) (R : Int) = xs ∧ ilvOr xs 1 = xs ∧ (C ≤ 32 → ilvOr (ilvOr xs r) (C : Int) = xs) := by
  obtain ⟨R, C, rfl, hR, hb, hl, hC⟩ := tabOk_parts h
  have e := ilvOr_yes h hC
  rw [e] at h0
  have hn := bitsOk_length hb
  have hC2 : C ≤ 1024 := by rw [← hC]; exact Nat.le_trans (Nat.div_le_self _ _) hn
  have hC1 : 1 ≤ C := by
    rcases Nat.eq_zero_or_pos C with hz | hz
    · rw [ilv_length, hl, hz] at h0; simp at h0
    · exact hz
  have hSl : (ilv xs R C).length = R * C := by rw [ilv_length, hl]
  have hSb := ilv_ok hb hl
  refine ⟨R, C, rfl, hR, hl, hC2, ?_, ?_, fun h32 => ?_⟩
  · rw [e, dlvOr_yes (tabOk_mk hR.1 hR.2 hSb hSl) (div_of_mul8 hR.1 hSl), ilv_back hl]
  · have h1 : tabOk xs ((1 : Nat) : Int) = true := tabOk_mk (C := xs.length) (by omega) (by omega) hb (by rw [Nat.one_mul])
    have := ilvOr_yes h1 (Nat.div_one _)
    rw [ilv_one] at this
    exact this
  · have hSl2 : (ilv xs R C).length = C * R := by rw [hSl, Nat.mul_comm]
    rw [e, ilvOr_yes (tabOk_mk hC1 h32 hSb hSl2) (div_of_mul8 hC1 hSl2), ilv_back hl]
theorem ilvOr_pos {xs : List Int} {r : Int} (h : (ilvOr xs r).length ≠ 0) : tabOk xs r = true := by
  cases hk : tabOk xs r
  · rw [ilvOr_no hk] at h; simp at h
  · rfl
theorem dlvOr_pos {xs : List Int} {r : Int} (h : (dlvOr xs r).length ≠ 0) : tabOk xs r = true := by
  cases hk : tabOk xs r
  · rw [dlvOr_no hk] at h; simp at h
  · rfl
theorem dlv_facts {xs : List Int} {r : Int} (h : tabOk xs r = true) : ilvOr (dlvOr xs r) r = xs ∧ (dlvOr xs r).length = xs.length ∧ xs.length ≤ 1024 ∧
    distOr (dlvOr xs r) (zeros xs.length) = distOr xs (zeros xs.length) := by
  obtain ⟨R, C, rfl, hR, hb, hl, hC⟩ := tabOk_parts h
  have e := dlvOr_yes h hC
  have hl2 : xs.length = C * R := by rw [hl, Nat.mul_comm]
  have hn := bitsOk_length hb
  have hSl : (ilv xs C R).length = R * C := by rw [ilv_length, hl]
  have hSb := ilv_ok hb hl2
  have hz := zeros_ok hn
  have h1 : pairOk (ilv xs C R) (zeros xs.length) = true := by simp [pairOk, hSb, hz, zeros_length, ilv_length]
  have h2 : pairOk xs (zeros xs.length) = true := by simp [pairOk, hb, hz, zeros_length]
  refine ⟨?_, ?_, hn, ?_⟩
  · rw [e, ilvOr_yes (tabOk_mk hR.1 hR.2 hSb hSl) (div_of_mul8 hR.1 hSl), ilv_back hl2]
  · rw [e, ilv_length]
  · rw [e, distOr_ok h1, distOr_ok h2, dist_ilv hl2]

set_option maxHeartbeats 2000000 in
theorem walkInterleaveBits (a : Option Addr) (c : Nat) (ds : List Int) (w : World) (hx : Ints .u8 w w.heap.size a ds) (hw : ∀ n ∈ ds, (Lit.int .u8 n).wf = true) (hc : ds.length ≤ c) (hcm : c ≤ maxLen) :
    Calls Try.prog 3 #[.slice a ds.length c] w fun e w' => e = .returned (.bool true) ∧ Below w.heap.size w w' := by
  have hb := isByte_of_wf hw
  clear hw
  by_cases hl : ds.length ≤ 1048576
  · go_enter Try.func3, Try.ntmps3
    go_wp2_with fail
    refine (drawInterleave_any a c ds w hx hb hc hcm).mono ?_
    rintro e w1 ⟨xs, a1, c1, r, rfl, ⟨l1, l2, l3⟩, _, i1, b1⟩
    have X1 := Lib.hid i1
    have B1 := Lib.hid b1
    clear hx hb hc hcm i1 b1 l2 l3
    obtain ⟨S, hS⟩ : ∃ S, S = ilvOr xs r := ⟨_, rfl⟩
    have HS := Lib.hid hS
    have hSl : S.length ≤ 1024 := by rw [hS]; exact ilvOr_length xs r
    have z3 : decide (S = S) = true := by simp
    clear hS
    go_wp2_with fail
    refine (interleave_any a1 c1 xs r w1 X1.out).mono ?_
    rw [← HS.out]
    rintro e w2 ⟨v2, cv2, rfl, _, o2, b2⟩
    have Y2 := Lib.hid (own_of_list o2).ints
    have X2 := Lib.hid (X1.out.next b2)
    have B2 := Lib.hid (Below.next B1.out (Nat.le_refl _) b2)
    clear o2 b2 X1 B1
    go_wp2_with fail
    refine (specInterleave_any a1 c1 xs r w2 X2.out (by unfold maxLen; omega)).mono ?_
    rw [← HS.out]
    rintro e w3 ⟨g3, n3, cap3, rfl, hg3, b3⟩
    obtain rfl : S.length = n3 := hg3.len
    have U3 := Lib.hid hg3.ints
    have Y3 := Lib.hid (Y2.out.next b3)
    have X3 := Lib.hid (X2.out.next b3)
    have B3 := Lib.hid (Below.next B2.out (Nat.le_refl _) b3)
    clear hg3 b3 Y2 X2 B2
    go_wp2_with fail
    refine (sameInts_any v2 _ cv2 cap3 w3.heap.size w3.heap.size S S w3 Y3.out U3.out (by omega)).mono ?_
    rintro e w4 ⟨rfl, n4, rfl⟩
    have B4 := Lib.hid (below_drewN B3.out n4)
    have Y4 : Hid (Ints .i64 (w3.drewN n4) (w3.drewN n4).heap.size v2 S) := Y3.out
    have X4 : Hid (Ints .i64 (w3.drewN n4) (w3.drewN n4).heap.size a1 xs) := X3.out
    clear Y3 X3 B3 U3
    generalize w3.drewN n4 = w4 at *
    by_cases hs0 : S.length = 0
    · have z4 : ((S.length : Int) == 0) = true := by simp [hs0]
      clear hs0
      go_wp2_with fail
      refine (alive_any w4).mono ?_
      rintro e w8 ⟨rfl, b8⟩
      have B8 := Lib.hid (Below.next B4.out (Nat.le_refl _) b8)
      clear b8
      go_wp2
      go_ret
      exact ⟨rfl, B8.out⟩
    · have z4 : ((S.length : Int) == 0) = false := by rw [beq_eq_false_iff_ne]; omega
      have h0 : (ilvOr xs r).length ≠ 0 := by rw [← HS.out]; exact hs0
      obtain ⟨R, C, rfl, ⟨hR1, hR2⟩, hxl, hC, f1, f2, f3⟩ := ilv_facts (ilvOr_pos h0) h0
      rw [← HS.out] at f1 f3
      have hz0 : ¬ R = 0 := by omega
      have hdiv : xs.length / R = C := div_of_mul8 hR1 hxl
      have r3 : IntKind.i64.wrap ((xs.length : Int).tdiv (R : Int)) = (C : Int) := by
        rw [Int.tdiv_eq_ediv_of_nonneg (Int.natCast_nonneg _), show (xs.length : Int) / (R : Int) = ((xs.length / R : Nat) : Int) from rfl, hdiv]; exact wrap8 (by omega)
      have r3' : wrap64 ((xs.length : Int) / (R : Int)) = (C : Int) := by
        rw [show (xs.length : Int) / (R : Int) = ((xs.length / R : Nat) : Int) from rfl, hdiv]; exact wrap8' (by omega)
      have z5 : decide (xs = xs) = true := by simp
      have F1 := Lib.hid f1
      have F2 := Lib.hid f2
      have F3 := Lib.hid f3
      clear h0 hs0 hxl hdiv f1 f2 f3
      go_wp2_with fail
      try rw [r3']
      clear r3 r3' z4 hz0
      refine (deinterleave_any v2 cv2 S (R : Int) w4 Y4.out).mono ?_
      rw [F1.out]
      rintro e w5 ⟨v5, cv5, rfl, _, o5, b5⟩
      have V5 := Lib.hid (own_of_list o5).ints
      have Y5 := Lib.hid (Y4.out.next b5)
      have X5 := Lib.hid (X4.out.next b5)
      have B5 := Lib.hid (Below.next B4.out (Nat.le_refl _) b5)
      clear o5 b5 Y4 X4 B4
      go_wp2_with fail
      refine (sameInts_any v5 a1 cv5 c1 w5.heap.size w5.heap.size xs xs w5 V5.out X5.out (by omega)).mono ?_
      rintro e w6 ⟨rfl, n6, rfl⟩
      have B6 := Lib.hid (below_drewN B5.out n6)
      have Y6 : Hid (Ints .i64 (w5.drewN n6) (w5.drewN n6).heap.size v2 S) := Y5.out
      have X6 : Hid (Ints .i64 (w5.drewN n6) (w5.drewN n6).heap.size a1 xs) := X5.out
      clear Y5 X5 B5 V5
      generalize w5.drewN n6 = w6 at *
      go_wp2_with fail
      refine (interleave_any a1 c1 xs 1 w6 X6.out).mono ?_
      rw [F2.out]
      rintro e w7 ⟨v7, cv7, rfl, _, o7, b7⟩
      have V7 := Lib.hid (own_of_list o7).ints
      have Y7 := Lib.hid (Y6.out.next b7)
      have X7 := Lib.hid (X6.out.next b7)
      have B7 := Lib.hid (Below.next B6.out (Nat.le_refl _) b7)
      clear o7 b7 Y6 X6 B6
      go_wp2_with fail
      refine (sameInts_any v7 a1 cv7 c1 w7.heap.size w7.heap.size xs xs w7 V7.out X7.out (by omega)).mono ?_
      rintro e w8 ⟨rfl, n8, rfl⟩
      have B8 := Lib.hid (below_drewN B7.out n8)
      have Y8 : Hid (Ints .i64 (w7.drewN n8) (w7.drewN n8).heap.size v2 S) := Y7.out
      have X8 : Hid (Ints .i64 (w7.drewN n8) (w7.drewN n8).heap.size a1 xs) := X7.out
      clear Y7 X7 B7 V7
      generalize w7.drewN n8 = w8 at *
      by_cases h32 : C ≤ 32
      · have H3 := Lib.hid (F3.out h32)
        go_wp2_with fail
        refine (interleave_any v2 cv2 S (C : Int) w8 Y8.out).mono ?_
        rw [H3.out]
        rintro e w9 ⟨v9, cv9, rfl, _, o9, b9⟩
        have V9 := Lib.hid (own_of_list o9).ints
        have X9 := Lib.hid (X8.out.next b9)
        have B9 := Lib.hid (Below.next B8.out (Nat.le_refl _) b9)
        clear o9 b9 Y8 X8 B8
        go_wp2_with fail
        refine (sameInts_any v9 a1 cv9 c1 w9.heap.size w9.heap.size xs xs w9 V9.out X9.out (by omega)).mono ?_
        rintro e w10 ⟨rfl, n10, rfl⟩
        go_wp2
        go_ret
        exact ⟨rfl, below_drewN B9.out n10⟩
      · go_wp2
        go_ret
        exact ⟨rfl, B8.out⟩
  · go_enter Try.func3, Try.ntmps3
    go_wp2
    go_ret
    exact ⟨rfl, Below.refl _ _⟩
set_option maxHeartbeats 2000000 in
theorem walkDeinterleaveBits (a : Option Addr) (c : Nat) (ds : List Int) (w : World) (hx : Ints .u8 w w.heap.size a ds) (hw : ∀ n ∈ ds, (Lit.int .u8 n).wf = true) (hc : ds.length ≤ c) (hcm : c ≤ maxLen) :
    Calls Try.prog 4 #[.slice a ds.length c] w fun e w' => e = .returned (.bool true) ∧ Below w.heap.size w w' := by
  have hb := isByte_of_wf hw
  clear hw
  by_cases hl : ds.length ≤ 1048576
  · go_enter Try.func4, Try.ntmps4
    go_wp2_with fail
    refine (drawDeinterleave_any a c ds w hx hb hc hcm).mono ?_
    rintro e w1 ⟨xs, a1, c1, r, rfl, ⟨l1, l2, l3⟩, _, i1, b1⟩
    have X1 := Lib.hid i1
    have B1 := Lib.hid b1
    clear hx hb hc hcm i1 b1 l2 l3
    obtain ⟨S, hS⟩ : ∃ S, S = dlvOr xs r := ⟨_, rfl⟩
    have HS := Lib.hid hS
    have hSl : S.length ≤ 1024 := by rw [hS]; exact dlvOr_length xs r
    have z3 : decide (S = S) = true := by simp
    clear hS
    go_wp2_with fail
    refine (deinterleave_any a1 c1 xs r w1 X1.out).mono ?_
    rw [← HS.out]
    rintro e w2 ⟨v2, cv2, rfl, _, o2, b2⟩
    have Y2 := Lib.hid (own_of_list o2).ints
    have X2 := Lib.hid (X1.out.next b2)
    have B2 := Lib.hid (Below.next B1.out (Nat.le_refl _) b2)
    clear o2 b2 X1 B1
    go_wp2_with fail
    refine (specDeinterleave_any a1 c1 xs r w2 X2.out (by unfold maxLen; omega)).mono ?_
    rw [← HS.out]
    rintro e w3 ⟨g3, cap3, rfl, _, o3, b3⟩
    have U3 := Lib.hid (own_of_list o3).ints
    have Y3 := Lib.hid (Y2.out.next b3)
    have X3 := Lib.hid (X2.out.next b3)
    have B3 := Lib.hid (Below.next B2.out (Nat.le_refl _) b3)
    clear o3 b3 Y2 X2 B2
    go_wp2_with fail
    refine (sameInts_any v2 _ cv2 cap3 w3.heap.size w3.heap.size S S w3 Y3.out U3.out (by omega)).mono ?_
    rintro e w4 ⟨rfl, n4, rfl⟩
    have B4 := Lib.hid (below_drewN B3.out n4)
    have Y4 : Hid (Ints .i64 (w3.drewN n4) (w3.drewN n4).heap.size v2 S) := Y3.out
    have X4 : Hid (Ints .i64 (w3.drewN n4) (w3.drewN n4).heap.size a1 xs) := X3.out
    clear Y3 X3 B3 U3
    generalize w3.drewN n4 = w4 at *
    by_cases hs0 : S.length = 0
    · have z4 : ((S.length : Int) == 0) = true := by simp [hs0]
      clear hs0
      go_wp2_with fail
      refine (alive_any w4).mono ?_
      rintro e w8 ⟨rfl, b8⟩
      have B8 := Lib.hid (Below.next B4.out (Nat.le_refl _) b8)
      clear b8
      go_wp2
      go_ret
      exact ⟨rfl, B8.out⟩
    · have z4 : ((S.length : Int) == 0) = false := by rw [beq_eq_false_iff_ne]; omega
      have h0 : (dlvOr xs r).length ≠ 0 := by rw [← HS.out]; exact hs0
      obtain ⟨f1, f2, f3, f4⟩ := dlv_facts (dlvOr_pos h0)
      rw [← HS.out] at f1 f2 f4
      have z5 : decide (xs = xs) = true := by simp
      have F1 := Lib.hid f1
      have F2 := Lib.hid f2
      have F4 := Lib.hid f4
      have hmk := run_make_row' (P := Try.prog) 23 3 (.int .i64 0) 8 Try.underlying23 Try.infoInt rfl .i64 .i64 xs.length (by omega) (by omega)
      clear h0 hs0 f1 f2 f4
      go_wp2_with fail
      clear hmk z4
      have hal := (Below.refl w4.heap.size w4).alloc (Nat.le_refl _) (.cells (madeCells #[.int .i64 0] xs.length) 3)
      have Z5 : Hid (Ints .i64 (w4.alloc (.cells (madeCells #[.int .i64 0] xs.length) 3)) (w4.alloc (.cells (madeCells #[.int .i64 0] xs.length) 3)).heap.size (some ⟨w4.heap.size, 0, none⟩) (zeros xs.length)) := by
        have := zeros_ints w4 xs.length
        show Ints _ _ _ _ _
        rw [World.size_alloc]
        exact this
      have Y5 := Lib.hid (Y4.out.next hal)
      have X5 := Lib.hid (X4.out.next hal)
      have B5 := Lib.hid (Below.next B4.out (Nat.le_refl _) hal)
      clear hal Y4 X4 B4
      generalize hzb : w4.heap.size = zb at *
      clear hzb
      generalize w4.alloc (.cells (madeCells #[.int .i64 0] xs.length) 3) = w5 at *
      refine (interleave_any v2 cv2 S r w5 Y5.out).mono ?_
      rw [F1.out]
      rintro e w6 ⟨v6, cv6, rfl, _, o6, b6⟩
      have V6 := Lib.hid (own_of_list o6).ints
      have Z6 := Lib.hid (Z5.out.next b6)
      have Y6 := Lib.hid (Y5.out.next b6)
      have X6 := Lib.hid (X5.out.next b6)
      have B6 := Lib.hid (Below.next B5.out (Nat.le_refl _) b6)
      clear o6 b6 Z5 Y5 X5 B5
      go_wp2_with fail
      refine (sameInts_any v6 a1 cv6 c1 w6.heap.size w6.heap.size xs xs w6 V6.out X6.out (by omega)).mono ?_
      rintro e w7 ⟨rfl, n7, rfl⟩
      have B7 := Lib.hid (below_drewN B6.out n7)
      have Y7 : Hid (Ints .i64 (w6.drewN n7) (w6.drewN n7).heap.size v2 S) := Y6.out
      have X7 : Hid (Ints .i64 (w6.drewN n7) (w6.drewN n7).heap.size a1 xs) := X6.out
      have Z7 : Hid (Ints .i64 (w6.drewN n7) (w6.drewN n7).heap.size (some ⟨zb, 0, none⟩) (zeros xs.length)) := Z6.out
      clear Y6 X6 B6 V6 Z6
      generalize w6.drewN n7 = w7 at *
      obtain ⟨D, hD⟩ : ∃ D, D = distOr xs (zeros xs.length) := ⟨_, rfl⟩
      have HD := Lib.hid hD
      clear hD
      have z6 : (D == D) = true := by simp
      have h8 := hamming_any v2 (some ⟨zb, 0, none⟩) cv2 xs.length w7.heap.size w7.heap.size S (zeros xs.length) w7 Y7.out Z7.out (Nat.le_refl _) (Nat.le_refl _)
      rw [zeros_length, F4.out, ← HD.out] at h8
      have H8 := Lib.hid h8
      clear h8
      go_wp2_with fail
      refine H8.out.mono ?_
      rintro e w8 ⟨rfl, b8⟩
      have Z8 := Lib.hid (Z7.out.next b8)
      have X8 := Lib.hid (X7.out.next b8)
      have B8 := Lib.hid (Below.next B7.out (Nat.le_refl _) b8)
      have h9 := hamming_any a1 (some ⟨zb, 0, none⟩) c1 xs.length w8.heap.size w8.heap.size xs (zeros xs.length) w8 X8.out Z8.out (Nat.le_refl _) (Nat.le_refl _)
      rw [zeros_length, ← HD.out] at h9
      have H9 := Lib.hid h9
      clear b8 h9 H8 X7 Z7 B7
      go_wp2_with fail
      refine H9.out.mono ?_
      rintro e w9 ⟨rfl, b9⟩
      have B9 := Lib.hid (Below.next B8.out (Nat.le_refl _) b9)
      clear b9
      go_wp2
      go_ret
      exact ⟨rfl, B9.out⟩
  · go_enter Try.func4, Try.ntmps4
    go_wp2
    go_ret
    exact ⟨rfl, Below.refl _ _⟩
end Go.Proofs.Ytmhngakfjlkchaa
