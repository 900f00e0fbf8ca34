/-
  The laws of EncodeNibble, of two errors and of the sum of code words, walked: they return true for every code, and write into nothing that was there. Condition: the program's tables lie in their variables, where a word is looked up.
-/
import Derived.Test.YtflplihhakepfaaNibLaw1
namespace Go.Proofs.Ytflplihhakepfaa
open Go.RowKit

theorem encOr_small (xs : List Int) : (encOr xs).length ≤ 7 := by
  unfold encOr; split <;> simp [encW_length]
/-- The list of four bits of a number. -/
def nibN (k : Nat) : List Int := [(k : Int) % 2, (k : Int) / 2 % 2, (k : Int) / 4 % 2, (k : Int) / 8]
theorem nibN_length (k : Nat) : (nibN k).length = 4 := rfl
theorem nibN_bits {k : Nat} (h : k < 16) : (nibN k).all isBit = true := by
  have : ∀ k, k < 16 → (nibN k).all isBit = true := by decide +kernel
  exact this k h
theorem ints_lit {w1 : World} {xs : List Int} : Ints .i64 (w1.alloc (.cells (xs.map (Value.int .i64)).toArray 3)) (w1.alloc (.cells (xs.map (Value.int .i64)).toArray 3)).heap.size (some ⟨w1.heap.size, 0, none⟩) xs := fun _ => by
  refine ⟨w1.heap.size, 0, rfl, by simp, fun i hi => ?_⟩
  rw [Nat.zero_add, cell_of_row _ _ _ _ _ _ (heap_alloc_last _ _)]
  simp [hi, el]
theorem enc_dist {xs ys : List Int} (hl : xs.length = 4) (hb : xs.all isBit = true) (hl' : ys.length = 4) (hb' : ys.all isBit = true) : ∃ d : Nat, distOr (encW xs) (encW ys) = (d : Int) ∧ (ys = xs ∨ 3 ≤ d) := by
  have hp : pairOk (encW xs) (encW ys) = true := by
    simp [pairOk, bitsOk_mk (enc_bits hl hb) (by rw [encW_length]; omega), bitsOk_mk (enc_bits hl' hb') (by rw [encW_length]; omega), encW_length]
  exact ⟨dist (encW xs) (encW ys), distOr_ok hp, enc_far hl hb hl' hb'⟩
set_option maxHeartbeats 2000000 in
theorem walkNibbleLinear (a : Option Addr) (c : Nat) (ds : List Int) (a' : Option Addr) (c' : Nat) (es : List Int) (w : World)
    (hx : Ints .u8 w w.heap.size a ds) (hw : ∀ n ∈ ds, (Lit.int .u8 n).wf = true) (hc : ds.length ≤ c) (hcm : c ≤ maxLen)
    (hy : Ints .u8 w w.heap.size a' es) (hw' : ∀ n ∈ es, (Lit.int .u8 n).wf = true) (hc' : es.length ≤ c') (hcm' : c' ≤ maxLen) :
    Calls Try.prog 3 #[.slice a ds.length c, .slice a' es.length c'] w fun e w' => e = .returned (.bool true) ∧ Below w.heap.size w w' := by
  have hb := isByte_of_wf hw
  have HB' := Lib.hid (isByte_of_wf hw')
  have HY := Lib.hid hy
  have HC' := Lib.hid hc'
  have HCM' := Lib.hid hcm'
  clear hw hw' hy hc' hcm'
  by_cases hl : ds.length ≤ 1048576
  · by_cases hl' : es.length ≤ 1048576
    · go_enter Try.func3, Try.ntmps3
      go_wp2_with fail
      refine (drawEncodeNibble_any a c ds w hx hb hc hcm).mono ?_
      rintro e w1 ⟨xs, a1, c1, rfl, ⟨l1, l2, l3⟩, i1, b1⟩
      have I1 := Lib.hid i1
      have Y1 := Lib.hid (HY.out.next b1)
      have B1 := Lib.hid b1
      have L1 := Lib.hid (show xs.length ≤ maxLen from Nat.le_trans l2 l3)
      clear hx hb hc hcm i1 b1 l2 l3 HY
      go_wp2_with fail
      refine (drawEncodeNibble_any a' c' es w1 Y1.out HB'.out HC'.out HCM'.out).mono ?_
      rintro e w2 ⟨ys, a2, c2, rfl, ⟨m1, m2, m3⟩, i2, b2⟩
      have X2 := Lib.hid (I1.out.next b2)
      have Y2 := Lib.hid i2
      have B2 := Lib.hid (Below.next B1.out (Nat.le_refl _) b2)
      clear i2 b2 m2 m3 I1 Y1 B1 HB' HC' HCM'
      obtain ⟨S, hS⟩ : ∃ S, S = encOr xs := ⟨_, rfl⟩
      obtain ⟨T, hT⟩ : ∃ T, T = encOr ys := ⟨_, rfl⟩
      have HS := Lib.hid hS
      have HT := Lib.hid hT
      have hSl : S.length ≤ 7 := by rw [hS]; exact encOr_small xs
      have hTl : T.length ≤ 7 := by rw [hT]; exact encOr_small ys
      have z3 : decide (S = S) = true := by simp
      clear hS hT
      go_wp2_with fail
      refine (encodeNibble_any a1 c1 w2.heap.size xs w2 X2.out (Nat.le_refl _)).mono ?_
      rw [← HS.out]
      rintro e w3 ⟨v3, cv3, rfl, _, o3, b3⟩
      have S3 := Lib.hid (own_of_list o3).ints
      have X3 := Lib.hid (X2.out.next b3)
      have Y3 := Lib.hid (Y2.out.next b3)
      have B3 := Lib.hid (Below.next B2.out (Nat.le_refl _) b3)
      clear o3 b3 X2 Y2 B2
      go_wp2_with fail
      refine (encodeNibble_any a2 c2 w3.heap.size ys w3 Y3.out (Nat.le_refl _)).mono ?_
      rw [← HT.out]
      rintro e w4 ⟨v4, cv4, rfl, _, o4, b4⟩
      have T4 := Lib.hid (own_of_list o4).ints
      have S4 := Lib.hid (S3.out.next b4)
      have X4 := Lib.hid (X3.out.next b4)
      have Y4 := Lib.hid (Y3.out.next b4)
      have B4 := Lib.hid (Below.next B3.out (Nat.le_refl _) b4)
      clear o4 b4 X3 Y3 B3 S3
      go_wp2_with fail
      refine (specEncodeNibble_any a1 c1 w4.heap.size xs w4 X4.out L1.out).mono ?_
      rw [← HS.out]
      rintro e w5 ⟨v5, cv5, rfl, _, o5, b5⟩
      have U5 := Lib.hid (own_of_list o5).ints
      have T5 := Lib.hid (T4.out.next b5)
      have S5 := Lib.hid (S4.out.next b5)
      have X5 := Lib.hid (X4.out.next b5)
      have Y5 := Lib.hid (Y4.out.next b5)
      have B5 := Lib.hid (Below.next B4.out (Nat.le_refl _) b5)
      clear o5 b5 X4 Y4 B4 S4 T4
      go_wp2_with fail
      refine (sameInts_any v3 v5 cv3 cv5 w5.heap.size w5.heap.size S S w5 S5.out U5.out (by omega)).mono ?_
      rintro e w6 ⟨rfl, n6, rfl⟩
      have B6 := Lib.hid (below_drewN B5.out n6)
      have S6 : Hid (Ints .i64 (w5.drewN n6) (w5.drewN n6).heap.size v3 S) := S5.out
      have T6 : Hid (Ints .i64 (w5.drewN n6) (w5.drewN n6).heap.size v4 T) := T5.out
      have X6 : Hid (Ints .i64 (w5.drewN n6) (w5.drewN n6).heap.size a1 xs) := X5.out
      have Y6 : Hid (Ints .i64 (w5.drewN n6) (w5.drewN n6).heap.size a2 ys) := Y5.out
      clear S5 T5 X5 Y5 B5 U5 z3
      generalize w5.drewN n6 = w7 at *
      cases hok : nibOk xs
      · obtain rfl : S = [] := by rw [HS.out, encOr_no hok]
        clear hok HS
        go_wp2_with fail
        refine (alive_any w7).mono ?_
        rintro e w8 ⟨rfl, b8⟩
        have B8 := Lib.hid (Below.next B6.out (Nat.le_refl _) b8)
        clear b8
        go_wp2
        go_ret
        exact ⟨rfl, B8.out⟩
      · obtain ⟨hlen, hbit⟩ := nibOk_parts hok
        obtain rfl : S = encW xs := by rw [HS.out, encOr_yes hok]
        cases hok2 : nibOk ys
        · obtain rfl : T = [] := by rw [HT.out, encOr_no hok2]
          rw [encW_length] at *
          clear hok HS hok2 HT hlen hbit
          go_wp2_with fail
          refine (alive_any w7).mono ?_
          rintro e w8 ⟨rfl, b8⟩
          have B8 := Lib.hid (Below.next B6.out (Nat.le_refl _) b8)
          clear b8
          go_wp2
          go_ret
          exact ⟨rfl, B8.out⟩
        · obtain ⟨hlen2, hbit2⟩ := nibOk_parts hok2
          obtain rfl : T = encW ys := by rw [HT.out, encOr_yes hok2]
          have hsum : encOr (sumOr xs ys) = sumOr (encW xs) (encW ys) := by
            have hp : pairOk xs ys = true := by simp [pairOk, bitsOk_mk hbit (by omega), bitsOk_mk hbit2 (by omega), hlen, hlen2]
            have hz : sumOr xs ys = sumBits xs ys := by simp [sumOr, hp]
            have hsb : nibOk (sumOr xs ys) = true := by
              rw [hz]
              exact nibOk_mk (by rw [sumBits_length, hlen]) (bitsOk_all (sumBits_ok (by omega)))
            rw [encOr_yes hsb, enc_sum hlen hbit hlen2 hbit2]
          have HSum := Lib.hid hsum
          have hZl : (sumOr (encW xs) (encW ys)).length ≤ 7 := by
            rw [← hsum]; exact encOr_small _
          rw [encW_length, encW_length] at *
          clear hok HS hok2 HT hlen hbit hlen2 hbit2 hsum
          go_wp2_with fail
          refine (addBits_room a1 a2 c1 c2 w7.heap.size w7.heap.size xs ys w7 X6.out Y6.out (Nat.le_refl _) (Nat.le_refl _)).mono ?_
          rintro e w8 ⟨v8, cv8, rfl, _, o8, b8⟩
          have V8 := Lib.hid (own_of_list o8).ints
          have S8 := Lib.hid (S6.out.next b8)
          have T8 := Lib.hid (T6.out.next b8)
          have B8 := Lib.hid (Below.next B6.out (Nat.le_refl _) b8)
          clear o8 b8 S6 T6 X6 Y6 B6
          have h9 := encodeNibble_any v8 cv8 w8.heap.size (sumOr xs ys) w8 V8.out (Nat.le_refl _)
          rw [HSum.out] at h9
          have H9 := Lib.hid h9
          clear h9
          generalize sumOr xs ys = U at *
          go_wp2_with fail
          refine H9.out.mono ?_
          rintro e w9 ⟨v9, cv9, rfl, _, o9, b9⟩
          have V9 := Lib.hid (own_of_list o9).ints
          have S9 := Lib.hid (S8.out.next b9)
          have T9 := Lib.hid (T8.out.next b9)
          have B9 := Lib.hid (Below.next B8.out (Nat.le_refl _) b9)
          clear o9 b9 S8 T8 V8 B8 H9
          have h10 := addBits_room v3 v4 cv3 cv4 w9.heap.size w9.heap.size (encW xs) (encW ys) w9 S9.out T9.out (Nat.le_refl _) (Nat.le_refl _)
          rw [encW_length, encW_length] at h10
          have H10 := Lib.hid h10
          clear h10
          generalize sumOr (encW xs) (encW ys) = Z at *
          have z4 : decide (Z = Z) = true := by simp
          go_wp2_with fail
          refine H10.out.mono ?_
          rintro e w10 ⟨v10, cv10, rfl, _, o10, b10⟩
          have V10 := Lib.hid (V9.out.next b10)
          have U10 := Lib.hid (own_of_list o10).ints
          have B10 := Lib.hid (Below.next B9.out (Nat.le_refl _) b10)
          clear o10 b10
          go_wp2_with fail
          refine (sameInts_any v9 v10 cv9 cv10 w10.heap.size w10.heap.size Z Z w10 V10.out U10.out (by omega)).mono ?_
          rintro e w11 ⟨rfl, n11, rfl⟩
          go_wp2
          go_ret
          exact ⟨rfl, below_drewN B10.out n11⟩
    · go_enter Try.func3, Try.ntmps3
      go_wp2
      go_ret
      exact ⟨rfl, Below.refl _ _⟩
  · go_enter Try.func3, Try.ntmps3
    go_wp2
    go_ret
    exact ⟨rfl, Below.refl _ _⟩
end Go.Proofs.Ytflplihhakepfaa
