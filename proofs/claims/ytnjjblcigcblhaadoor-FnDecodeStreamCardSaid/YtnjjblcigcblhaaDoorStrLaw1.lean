/-
  The laws of the stream code on codes alone, walked: different streams differ in five places, two errors are corrected: they return true for every code, and write into nothing that was there. Condition: the program's two tables of the stream code lie in their variables.
-/
import Derived.Test.YtnjjblcigcblhaaDoorStrDraw
import Derived.Test.YtnjjblcigcblhaaDoorStrNear
import Derived.Test.YtnjjblcigcblhaaDoorStr9
import Derived.Test.YtnjjblcigcblhaaDoorLaw1
namespace Go.Proofs.YtnjjblcigcblhaaDoor
open Go.RowKit

theorem strOr_pos {xs : List Int} (h : 0 < (strOr xs).length) : strOk xs = true := by
  cases e : strOk xs with
  | true => rfl
  | false => rw [strOr_no e] at h; simp at h
theorem code_apart {xs ys : List Int} (hx : strOk xs = true) (hy : strOk ys = true) (hl : (codeL xs).length = (codeL ys).length) (hne : xs ≠ ys) : (5 : Int) ≤ distOr (codeL xs) (codeL ys) := by
  have h1 := codeL_length xs
  have h2 := codeL_length ys
  have hle := code_far (strOk_parts hx).2 (strOk_parts hy).2 (by omega) hne
  have hp := pair_code hx (code_ok hy) (by omega)
  rw [distOr_ok hp]
  omega
set_option maxHeartbeats 2000000 in
theorem walkStreamDistance (a : Option Addr) (c : Nat) (ds : List Int) (w : World) (hx : Ints .u8 w w.heap.size a ds) (hw : ∀ n ∈ ds, (Lit.int .u8 n).wf = true) (hc : ds.length ≤ c) (hcm : c ≤ maxLen) (hT : StrTabs w) :
    Calls Tryd.prog 7 #[.slice a ds.length c] w fun e w' => e = .returned (.bool true) ∧ Below w.heap.size w w' := by
  have hb := isByte_of_wf hw
  have HT := Lib.hid hT
  clear hw hT
  by_cases hl : ds.length ≤ 1048576
  · go_enter Tryd.func7, Tryd.ntmps7
    go_wp2_with fail
    refine (drawAdd_any a c ds w hx hb hc hcm).mono ?_
    rintro e w1 ⟨xs, ys, a1, a2, c1, c2, rfl, l1, l2, _, _, i1, i2, b1⟩
    have X1 := Lib.hid i1
    have Y1 := Lib.hid i2
    have B1 := Lib.hid b1
    clear hx hb hc hcm i1 i2 b1
    obtain ⟨S, hS⟩ : ∃ S, S = strOr xs := ⟨_, rfl⟩
    obtain ⟨U, hU⟩ : ∃ U, U = strOr ys := ⟨_, rfl⟩
    have HS := Lib.hid hS
    have HU := Lib.hid hU
    have hSl : S.length ≤ 84 := by rw [hS]; exact strOr_length xs
    have hUl : U.length ≤ 84 := by rw [hU]; exact strOr_length ys
    have z3 : decide (S = S) = true := by simp
    clear hS hU
    go_wp2_with fail
    refine (encodeStream_any a1 c1 xs w1 X1.out (by unfold maxLen; omega) (HT.out.next B1.out)).mono ?_
    rw [← HS.out]
    rintro e w2 ⟨v2, cv2, rfl, _, o2, b2⟩
    have S2 := Lib.hid (own_of_list o2).ints
    have X2 := Lib.hid (X1.out.next b2)
    have Y2 := Lib.hid (Y1.out.next b2)
    have B2 := Lib.hid (Below.next B1.out (Nat.le_refl _) b2)
    clear o2 b2 X1 Y1 B1
    go_wp2_with fail
    refine (encodeStream_any a2 c2 ys w2 Y2.out (by unfold maxLen; omega) (HT.out.next B2.out)).mono ?_
    rw [← HU.out]
    rintro e w3 ⟨v3, cv3, rfl, _, o3, b3⟩
    have U3 := Lib.hid (own_of_list o3).ints
    have S3 := Lib.hid (S2.out.next b3)
    have X3 := Lib.hid (X2.out.next b3)
    have Y3 := Lib.hid (Y2.out.next b3)
    have B3 := Lib.hid (Below.next B2.out (Nat.le_refl _) b3)
    clear o3 b3 X2 Y2 B2 S2
    go_wp2_with fail
    refine (specEncodeStream_new a1 c1 xs w3 X3.out (by unfold maxLen; omega)).mono ?_
    rw [← HS.out]
    rintro e w4 ⟨g4, n4, cap4, rfl, hg4, b4⟩
    obtain rfl : S.length = n4 := hg4.len
    have T4 := Lib.hid hg4.ints
    have U4 := Lib.hid (U3.out.next b4)
    have S4 := Lib.hid (S3.out.next b4)
    have X4 := Lib.hid (X3.out.next b4)
    have Y4 := Lib.hid (Y3.out.next b4)
    have B4 := Lib.hid (Below.next B3.out (Nat.le_refl _) b4)
    clear hg4 b4 X3 Y3 B3 S3 U3
    go_wp2_with fail
    refine (sameInts_any v2 _ cv2 cap4 w4.heap.size w4.heap.size S S w4 S4.out T4.out (by omega)).mono ?_
    rintro e w5 ⟨rfl, n5, rfl⟩
    have B5 := Lib.hid (below_drewN B4.out n5)
    have S5 : Hid (Ints .i64 (w4.drewN n5) (w4.drewN n5).heap.size v2 S) := S4.out
    have U5 : Hid (Ints .i64 (w4.drewN n5) (w4.drewN n5).heap.size v3 U) := U4.out
    have X5 : Hid (Ints .i64 (w4.drewN n5) (w4.drewN n5).heap.size a1 xs) := X4.out
    have Y5 : Hid (Ints .i64 (w4.drewN n5) (w4.drewN n5).heap.size a2 ys) := Y4.out
    clear B4 S4 U4 X4 Y4 T4
    generalize w4.drewN n5 = w5 at *
    by_cases hs0 : S.length = 0
    · have z4 : ((S.length : Int) == 0) = true := by simp [hs0]
      clear hs0
      go_wp2_with fail
      refine (alive_any w5).mono ?_
      rintro e w8 ⟨rfl, b8⟩
      have B8 := Lib.hid (Below.next B5.out (Nat.le_refl _) b8)
      clear b8
      go_wp2
      go_ret
      exact ⟨rfl, B8.out⟩
    · have z4 : ((S.length : Int) == 0) = false := by rw [beq_eq_false_iff_ne]; omega
      by_cases hsu : S.length = U.length
      · have hokx := strOr_pos (xs := xs) (by rw [← HS.out]; omega)
        have hoky := strOr_pos (xs := ys) (by rw [← HU.out]; omega)
        have z5 : ((S.length : Int) != (U.length : Int)) = false := by simp; omega
        have eS := HS.out.trans (strOr_yes hokx)
        have eU := HU.out.trans (strOr_yes hoky)
        by_cases hxy : xs = ys
        · have z6 : decide (xs = ys) = true := by simp [hxy]
          have HQ := Lib.hid (sameInts_any a1 a2 c1 c2 w5.heap.size w5.heap.size xs ys w5 X5.out Y5.out (by omega))
          rw [z6] at HQ
          clear hsu hs0 eS eU hxy z6
          go_wp2_with fail
          refine HQ.out.mono ?_
          rintro e w6 ⟨rfl, n6, rfl⟩
          have B6 := Lib.hid (below_drewN B5.out n6)
          go_wp2
          go_ret
          exact ⟨rfl, B6.out⟩
        · have z6 : decide (xs = ys) = false := by simp [hxy]
          have h5 := code_apart hokx hoky (by rw [← eS, ← eU]; exact hsu) hxy
          rw [← eS, ← eU] at h5
          have HQ := Lib.hid (sameInts_any a1 a2 c1 c2 w5.heap.size w5.heap.size xs ys w5 X5.out Y5.out (by omega))
          rw [z6] at HQ
          have HH := Lib.hid (fun n => hamming_any v2 v3 cv2 cv3 w5.heap.size w5.heap.size S U (w5.drewN n) S5.out U5.out (Nat.le_refl _) (Nat.le_refl _))
          generalize distOr S U = D at *
          clear hsu hs0 eS eU hxy z6
          go_wp2_with fail
          refine HQ.out.mono ?_
          rintro e w6 ⟨rfl, n6, rfl⟩
          go_wp2_with fail
          refine (HH.out n6).mono ?_
          rintro e w7 ⟨rfl, b7⟩
          have B7 := Lib.hid (Below.next (below_drewN B5.out n6) (Nat.le_refl _) b7)
          clear b7
          go_wp2
          go_ret
          exact ⟨rfl, B7.out⟩
      · have z5 : ((S.length : Int) != (U.length : Int)) = true := by simp; omega
        clear hsu hs0
        go_wp2_with fail
        refine (alive_any w5).mono ?_
        rintro e w8 ⟨rfl, b8⟩
        have B8 := Lib.hid (Below.next B5.out (Nat.le_refl _) b8)
        clear b8
        go_wp2
        go_ret
        exact ⟨rfl, B8.out⟩
  · go_enter Tryd.func7, Tryd.ntmps7
    go_wp2
    go_ret
    exact ⟨rfl, Below.refl _ _⟩
end Go.Proofs.YtnjjblcigcblhaaDoor
