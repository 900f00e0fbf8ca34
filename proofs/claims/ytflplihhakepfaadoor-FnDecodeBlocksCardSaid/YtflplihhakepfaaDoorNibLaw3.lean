/-
  The law of DecodeBlocks, walked: it returns true for every code, and writes into nothing that was there. Condition: the program's tables lie in their variables.
-/
import Derived.Test.YtflplihhakepfaaDoorNibDraw2
import Derived.Test.YtflplihhakepfaaDoorNibMath2
namespace Go.Proofs.YtflplihhakepfaaDoor
open Go.RowKit

theorem decB_len (xs : List Int) : (decB xs).length ≤ 512 := by
  unfold decB; split
  · next h => rw [decK_length]; have := (blkOk_parts h).2.2; omega
  · simp
theorem fixB_le (xs : List Int) : fixB xs ≤ 128 := by
  unfold fixB; split
  · next h => have h1 := (blkOk_parts h).2.2; have h2 := fixK_le xs (xs.length / 7); omega
  · omega
set_option maxHeartbeats 2000000 in
theorem walkDecodeBlocks (a : Option Addr) (c : Nat) (ds : List Int) (w : World) (hx : Ints .u8 w w.heap.size a ds) (hw : ∀ n ∈ ds, (Lit.int .u8 n).wf = true) (hc : ds.length ≤ c) (hcm : c ≤ maxLen) (hS : SynTab w) (hC : CorTab w) :
    Calls Tryd.prog 7 #[.slice a ds.length c] w fun e w' => e = .returned (.bool true) ∧ Below w.heap.size w w' := by
  have hb := isByte_of_wf hw
  have HT := Lib.hid hS
  have HC := Lib.hid hC
  clear hw hS hC
  by_cases hl : ds.length ≤ 1048576
  · go_enter Tryd.func7, Tryd.ntmps7
    go_wp2_with fail
    refine (drawDecodeBlocks_any a c ds w hx hb hc hcm).mono ?_
    rintro e w1 ⟨xs, a1, c1, rfl, ⟨l1, l2, l3⟩, i1, b1⟩
    have I1 := Lib.hid i1
    have B1 := Lib.hid b1
    have L1 := Lib.hid (show xs.length ≤ maxLen from Nat.le_trans l2 l3)
    have L2 := Lib.hid l2
    clear hx hb hc hcm i1 b1 l3 l2
    obtain ⟨D, hD⟩ : ∃ D, D = decB xs := ⟨_, rfl⟩
    obtain ⟨F, hF⟩ : ∃ F, F = fixB xs := ⟨_, rfl⟩
    have HD := Lib.hid hD
    have HF := Lib.hid hF
    have hDl : D.length ≤ 512 := by rw [hD]; exact decB_len xs
    have hFl : F ≤ 128 := by rw [hF]; exact fixB_le xs
    have z3 : decide (D = D) = true := by simp
    have z2 : ((F : Int) != (F : Int)) = false := by simp
    clear hD hF
    go_wp2_with fail
    refine (decodeBlocks_any a1 c1 xs w1 I1.out L2.out (HT.out.next B1.out) (HC.out.next B1.out)).mono ?_
    unfold DecBPost
    rw [← HD.out, ← HF.out]
    rintro e w2 ⟨v2, cv2, rfl, r2, o2, b2⟩
    have V2 := Lib.hid (own_of_list o2).ints
    have R2 := Lib.hid r2
    have I2 := Lib.hid (I1.out.next b2)
    have B2 := Lib.hid (Below.next B1.out (Nat.le_refl _) b2)
    clear o2 b2 I1 B1 r2
    go_wp2_with fail
    refine (specDecodeBlocks_any a1 c1 xs w2 I2.out L2.out L1.out).mono ?_
    unfold DecBPost
    rw [← HD.out, ← HF.out]
    rintro e w3 ⟨v3, cv3, rfl, _, o3, b3⟩
    have U3 := Lib.hid (own_of_list o3).ints
    have V3 := Lib.hid (V2.out.next b3)
    have I3 := Lib.hid (I2.out.next b3)
    have B3 := Lib.hid (Below.next B2.out (Nat.le_refl _) b3)
    clear o3 b3 V2 I2 B2
    go_wp2_with fail
    refine (sameInts_any v2 v3 cv2 cv3 w3.heap.size w3.heap.size D D w3 V3.out U3.out (by omega)).mono ?_
    rintro e w4 ⟨rfl, n4, rfl⟩
    have B4 := Lib.hid (below_drewN B3.out n4)
    have V4 : Hid (Ints .i64 (w3.drewN n4) (w3.drewN n4).heap.size v2 D) := V3.out
    have I4 : Hid (Ints .i64 (w3.drewN n4) (w3.drewN n4).heap.size a1 xs) := I3.out
    clear V3 U3 I3 B3 z3
    generalize w3.drewN n4 = w5 at *
    have hib := isBits_any a1 c1 w5.heap.size xs w5 I4.out L1.out
    cases hok : blkOk 7 xs
    · obtain rfl : D = [] := by rw [HD.out, decB_no hok]
      obtain rfl : F = 0 := by rw [HF.out, fixB_no hok]
      clear HD HF
      cases hbo : bitsOk xs
      · rw [hbo] at hib
        have HIB := Lib.hid hib
        clear hib hok hbo
        go_wp2_with fail
        refine HIB.out.mono ?_
        rintro e w3 ⟨rfl, rfl⟩
        go_wp2_with fail
        refine (alive_any w5).mono ?_
        rintro e w6 ⟨rfl, b6⟩
        have B6 := Lib.hid (Below.next B4.out (Nat.le_refl _) b6)
        clear b6
        go_wp2
        go_ret
        exact ⟨rfl, B6.out⟩
      · rw [hbo] at hib
        have HIB := Lib.hid hib
        by_cases h1 : xs.length % 7 = 0
        · have hr : ((xs.length : Int) % 7 != 0) = false := by rw [bne_eq_false_iff_eq]; omega
          have hgt : ¬ xs.length ≤ 896 := fun h => by simp [blkOk, hbo, h1, h] at hok
          clear hib hok hbo h1
          go_wp2_with fail
          refine HIB.out.mono ?_
          rintro e w3 ⟨rfl, rfl⟩
          go_wp2_with fail
          refine (alive_any w5).mono ?_
          rintro e w6 ⟨rfl, b6⟩
          have B6 := Lib.hid (Below.next B4.out (Nat.le_refl _) b6)
          clear b6
          go_wp2
          go_ret
          exact ⟨rfl, B6.out⟩
        · have hr : ((xs.length : Int) % 7 != 0) = true := by rw [bne_iff_ne]; omega
          clear hib hok hbo h1
          go_wp2_with fail
          refine HIB.out.mono ?_
          rintro e w3 ⟨rfl, rfl⟩
          go_wp2_with fail
          refine (alive_any w5).mono ?_
          rintro e w6 ⟨rfl, b6⟩
          have B6 := Lib.hid (Below.next B4.out (Nat.le_refl _) b6)
          clear b6
          go_wp2
          go_ret
          exact ⟨rfl, B6.out⟩
    · obtain ⟨hbo, hmod, hlen⟩ := blkOk_parts hok
      obtain ⟨d1, d2, d3⟩ := dist_ok hok
      rw [← HD.out, ← HF.out] at d1
      rw [← HF.out] at d2
      rw [← HD.out] at d3
      rw [hbo] at hib
      have HIB := Lib.hid hib
      have HDi := Lib.hid d1
      have hr : ((xs.length : Int) % 7 != 0) = false := by rw [bne_eq_false_iff_eq]; omega
      have h896 : xs.length ≤ 896 := by omega
      have HZ := Lib.hid (show decide ((F : Int) ≤ (xs.length : Int) / 7) = true ∧ ((7 * (D.length : Int)) == 4 * (xs.length : Int)) = true ∧ ((F : Int) == (F : Int)) = true from ⟨by rw [decide_eq_true_eq]; omega, by rw [beq_iff_eq]; omega, by simp⟩)
      clear hib hok hbo hmod d1 d2 d3 HD HF hlen
      go_wp2_with fail
      refine HIB.out.mono ?_
      rintro e w6 ⟨rfl, rfl⟩
      clear HIB
      go_wp2_with fail
      clear hr
      refine (encodeBlocks_any v2 cv2 D w5 V4.out R2.out.1).mono ?_
      rintro e w6 ⟨v6, cv6, rfl, _, o6, b6⟩
      have V6 := Lib.hid (own_of_list o6).ints
      have I6 := Lib.hid (I4.out.next b6)
      have B6 := Lib.hid (Below.next B4.out (Nat.le_refl _) b6)
      clear o6 b6
      have h7 := hamming_any v6 a1 cv6 c1 w6.heap.size w6.heap.size (encB D) xs w6 V6.out I6.out (Nat.le_refl _) (Nat.le_refl _)
      rw [HDi.out] at h7
      have H7 := Lib.hid h7
      clear h7
      generalize encB D = E at *
      obtain ⟨y1, y2, y3⟩ := HZ.out
      go_wp2_with fail
      refine H7.out.mono ?_
      rintro e w7 ⟨rfl, b7⟩
      have B7 := Lib.hid (Below.next B6.out (Nat.le_refl _) b7)
      clear b7
      go_wp2
      go_ret
      exact ⟨rfl, B7.out⟩
  · go_enter Tryd.func7, Tryd.ntmps7
    go_wp2
    go_ret
    exact ⟨rfl, Below.refl _ _⟩
end Go.Proofs.YtflplihhakepfaaDoor
