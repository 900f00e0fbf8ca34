/-
  The law of encoding a stream, walked: the code is linear, and decoding returns the bits: it returns true for every code, and writes into nothing that was there. Condition: the program's two tables of the stream code lie in their variables.
-/
import Derived.Test.YtnjjblcigcblhaaDoorStrLaw1
import Derived.Test.YtnjjblcigcblhaaDoorStrLin
import Derived.Test.YtnjjblcigcblhaaDoorExact2
namespace Go.Proofs.YtnjjblcigcblhaaDoor
open Go.RowKit

theorem rev_next {xs : List Int} {m : Nat} (hm : m < xs.length) : xs.reverse.take m ++ [el xs (xs.length - 1 - m)] = xs.reverse.take (m + 1) := by
  rw [List.take_succ_eq_append_getElem (by simpa using hm)]
  congr 2
  rw [List.getElem_reverse, el_lt (by omega)]
theorem strOk_rev {xs : List Int} (h : strOk xs = true) : strOk xs.reverse = true := by
  obtain ⟨h1, h2⟩ := strOk_parts h
  exact strOk_mk (by simpa using h1) (by simpa using h2)
set_option maxHeartbeats 2000000 in
theorem walkEncodeStream (a : Option Addr) (c : Nat) (ds : List Int) (w : World) (hx : Ints .u8 w w.heap.size a ds) (hw : ∀ n ∈ ds, (Lit.int .u8 n).wf = true) (hc : ds.length ≤ c) (hcm : c ≤ maxLen) (hT : StrTabs w) :
    Calls Tryd.prog 3 #[.slice a ds.length c] w fun e w' => e = .returned (.bool true) ∧ Below w.heap.size w w' := by
  have hb := isByte_of_wf hw
  have HT := Lib.hid hT
  clear hw hT
  by_cases hl : ds.length ≤ 1048576
  · go_enter Tryd.func3, Tryd.ntmps3
    go_wp2_with fail
    refine (drawEncodeStream_any a c ds w hx hb hc hcm).mono ?_
    rintro e w1 ⟨xs, a1, c1, rfl, ⟨l1, l2, l3⟩, i1, b1⟩
    have X1 := Lib.hid i1
    have B1 := Lib.hid b1
    clear hx hb hc hcm i1 b1
    obtain ⟨S, hS⟩ : ∃ S, S = strOr xs := ⟨_, rfl⟩
    have HS := Lib.hid hS
    have hSl : S.length ≤ 84 := by rw [hS]; exact strOr_length xs
    have z3 : decide (S = S) = true := by simp
    clear hS
    go_wp2_with fail
    refine (encodeStream_any a1 c1 xs w1 X1.out (by unfold maxLen; omega) (HT.out.next B1.out)).mono ?_
    rw [← HS.out]
    rintro e w2 ⟨v2, cv2, rfl, r2, o2, b2⟩
    have S2 := Lib.hid (own_of_list o2)
    have X2 := Lib.hid (X1.out.below b2)
    have B2 := Lib.hid (Below.next B1.out (Nat.le_refl _) b2)
    have s1 : w.heap.size ≤ w1.heap.size := B1.out.size
    have s2 : w1.heap.size ≤ w2.heap.size := b2.size
    have hcv : S.length ≤ cv2 := r2.1
    clear o2 b2 r2 X1
    go_wp2_with fail
    refine (specEncodeStream_new a1 c1 xs w2 (X2.out.more s2) (by unfold maxLen; omega)).mono ?_
    rw [← HS.out]
    rintro e w3 ⟨g3, n3, cap3, rfl, hg3, b3⟩
    obtain rfl : S.length = n3 := hg3.len
    have U3 := Lib.hid hg3.ints
    have S3 := Lib.hid (S2.out.next b3)
    have X3 := Lib.hid (X2.out.below (b3.mono s2))
    have B3 := Lib.hid (Below.next B2.out (Nat.le_refl _) b3)
    have s3 : w2.heap.size ≤ w3.heap.size := b3.size
    clear hg3 b3 S2 X2 B2
    go_wp2_with fail
    refine (sameInts_any v2 _ cv2 cap3 w2.heap.size w3.heap.size S S w3 S3.out.ints U3.out (by omega)).mono ?_
    rintro e w4 ⟨rfl, n4, rfl⟩
    have B4 := Lib.hid (below_drewN B3.out n4)
    have S4 : Hid (Own .i64 3 (w3.drewN n4) w1.heap.size w2.heap.size v2 S) := S3.out
    have X4 : Hid (Ints .i64 (w3.drewN n4) w1.heap.size a1 xs) := X3.out
    have s4 : w2.heap.size ≤ (w3.drewN n4).heap.size := s3
    clear S3 X3 B3 U3 s3
    generalize w3.drewN n4 = w4 at *
    by_cases hs0 : S.length = 0
    · have z4 : ((S.length : Int) == 0) = true := by simp [hs0]
      have HBI := Lib.hid (isBits_any a1 c1 w1.heap.size xs w4 X4.out (by unfold maxLen; omega))
      cases hbo : bitsOk xs
      · rw [hbo] at HBI
        clear hs0 hbo
        go_wp2_with fail
        refine HBI.out.mono ?_
        rintro e w5 ⟨rfl, rfl⟩
        go_wp2_with fail
        refine (alive_any w4).mono ?_
        rintro e w8 ⟨rfl, b8⟩
        have B8 := Lib.hid (Below.next B4.out (Nat.le_refl _) b8)
        clear b8
        go_wp2
        go_ret
        exact ⟨rfl, B8.out⟩
      · rw [hbo] at HBI
        have h40 : 40 < xs.length := by
          rcases Nat.lt_or_ge 40 xs.length with h | h
          · exact h
          · have e := HS.out.trans (strOr_yes (strOk_mk h (bitsOk_parts hbo).2))
            rw [e, codeL_length] at hs0
            omega
        clear hs0 hbo
        go_wp2_with fail
        refine HBI.out.mono ?_
        rintro e w5 ⟨rfl, rfl⟩
        go_wp2_with fail
        refine (alive_any w4).mono ?_
        rintro e w8 ⟨rfl, b8⟩
        have B8 := Lib.hid (Below.next B4.out (Nat.le_refl _) b8)
        clear b8
        go_wp2
        go_ret
        exact ⟨rfl, B8.out⟩
    · have z4 : ((S.length : Int) == 0) = false := by rw [beq_eq_false_iff_ne]; omega
      have hok := strOr_pos (xs := xs) (by rw [← HS.out]; omega)
      have eS := HS.out.trans (strOr_yes hok)
      have hl40 := (strOk_parts hok).1
      have HOK := Lib.hid (And.intro hok eS)
      have HSN : Hid (S.length = 2 * xs.length + 4) := by show S.length = _; rw [eS, codeL_length]
      have S5 := Lib.hid (fun W (hb : Below w4.heap.size w4 W) => (S4.out.ints.below (hb.mono s4)))
      have X5 := Lib.hid (fun W (hb : Below w4.heap.size w4 W) => (X4.out.below (hb.mono (Nat.le_trans s2 s4))))
      clear hs0 hok eS
      go_wp2
      go_loopw [5, 6] (fun s i wr => ∃ (m cap : Nat) (v : Option Addr) (z : Int), m ≤ xs.length ∧ z = (xs.length : Int) - 1 - (m : Int) ∧ i = .int .i64 z ∧ s = .slice v m cap ∧ Grow .i64 3 wr w4.heap.size v m cap (xs.reverse.take m) ∧ Below w4.heap.size w4 wr) (fun _ i _ => (intOf i + 1).toNat)
      case atStart => exact ⟨0, 0, _, _, by omega, by omega, rfl, rfl, Grow.lit0 _ _ _ _ (Nat.le_refl _), below_new w4 _⟩
      case round =>
        obtain ⟨m, cap, v, z, hm, hz, rfl, rfl, hgr, hbe⟩ := hrel
        have HG := Lib.hid hgr
        have HB := Lib.hid hbe
        have hsz : w4.heap.size ≤ wr.heap.size := hbe.size
        clear hgr hbe
        by_cases hlt : m < xs.length
        · obtain ⟨q, hq⟩ : ∃ q, q = xs.length - 1 - m := ⟨_, rfl⟩
          have hqz : z = (q : Int) := by omega
          subst hqz
          obtain ⟨b, off, hbo, _, hcq⟩ := (X5.out wr HB.out).at_ (i := q) (by omega)
          have HRN := Lib.hid (rev_next hlt)
          rw [← hq] at HRN
          have HZQ := Lib.hid (And.intro hz hq)
          have hq0 : q < xs.length := by omega
          generalize el xs q = x at *
          clear hz hq
          subst hbo
          go_wp2_with (at_builtin; refine wpList_append1 (.tmp 41) (.tmp 46) w4.heap.size v m cap (xs.reverse.take m) ⟨wr.heap.size, 0, none⟩ x rfl rfl rfl rfl (HG.out.alloc _) (cell_of_row _ _ 0 _ _ _ (heap_alloc_last _ _)) (by omega) (by simp; omega) ?_; intro a5 cap5 w5 hg5 hb5; rw [HRN.out] at hg5; have HG5 := Lib.hid hg5; have HB5 := Lib.hid ((HB.out.alloc hsz _).trans hb5); clear hg5 hb5)
          go_roundw
          case rel => exact ⟨m + 1, cap5, a5, (q : Int) - 1, by omega, by have := HZQ.out.1; omega, rfl, rfl, HG5.out, HB5.out⟩
          case measure => simp [intOf]
        · have hmn : m = xs.length := by omega
          have hzn : z = -1 := by omega
          subst hzn
          have hrev : xs.reverse.take m = xs.reverse := List.take_of_length_le (by simp; omega)
          rw [hrev] at HG
          clear hrev hz
          subst hmn
          obtain ⟨R, hR⟩ : ∃ R, R = xs.reverse := ⟨_, rfl⟩
          have hRl : R.length = xs.length := by rw [hR]; simp
          have hRok : strOk R = true := by rw [hR]; exact strOk_rev HOK.out.1
          rw [← hR] at HG
          have HLIN := Lib.hid (code_lin HOK.out.1 hRok hRl.symm)
          have hdc : decOr7 S = xs := by rw [HOK.out.2, decOr7_yes (code_ok HOK.out.1), dec_code HOK.out.1]
          have hec : errOr7 S = 0 := by rw [HOK.out.2, errOr7_yes (code_ok HOK.out.1), err_code HOK.out.1]; rfl
          have HRL := Lib.hid (And.intro hRl (And.intro hdc hec))
          have z5 : ((S.length : Int) == 2 * (xs.length : Int) + 4) = true := by rw [beq_iff_eq]; have := HSN.out; omega
          have BW := Lib.hid (Below.next B4.out (Nat.le_refl _) HB.out)
          have hwr : w.heap.size ≤ wr.heap.size := BW.out.size
          have XW := Lib.hid ((X5.out wr HB.out).more (show w1.heap.size ≤ wr.heap.size by omega))
          have SW := Lib.hid ((S5.out wr HB.out).more (show w2.heap.size ≤ wr.heap.size by omega))
          have RW := Lib.hid HG.out.ints
          obtain ⟨P, hP⟩ : ∃ P, P = sumOr xs R := ⟨_, rfl⟩
          have hPl : P.length ≤ 1048576 := by rw [hP]; exact sumOr_length xs R (by omega)
          obtain ⟨E, hE⟩ : ∃ E, E = strOr P := ⟨_, rfl⟩
          have hEl : E.length ≤ 84 := by rw [hE]; exact strOr_length P
          obtain ⟨U, hU⟩ : ∃ U, U = strOr R := ⟨_, rfl⟩
          have hUl : U.length ≤ 84 := by rw [hU]; exact strOr_length R
          have hsum : sumOr S U = E := by rw [hE, hP, hU, HLIN.out, ← HS.out]
          have HPP := Lib.hid (And.intro hP (And.intro hE (And.intro hU hsum)))
          have hA := addBits_any a1 v c1 cap wr.heap.size wr.heap.size xs R wr XW.out RW.out (Nat.le_refl _) (Nat.le_refl _)
          rw [hRl, ← hP] at hA
          have HA := Lib.hid hA
          clear hA hR hRok hdc hec hRl hP hE hU hsum
          go_wp2_with fail
          refine HA.out.mono ?_
          rintro e w5 ⟨v5, cv5, rfl, o5, b5⟩
          have P5 := Lib.hid (own_of_list o5).ints
          have X6 := Lib.hid (XW.out.next b5)
          have S6 := Lib.hid (SW.out.next b5)
          have R6 := Lib.hid (RW.out.next b5)
          have B5 := Lib.hid (Below.next BW.out (Nat.le_refl _) b5)
          clear o5 b5 XW SW RW BW HA
          go_wp2_with fail
          refine (encodeStream_any v5 cv5 P w5 P5.out (by unfold maxLen; omega) (HT.out.next B5.out)).mono ?_
          rw [← HPP.out.2.1]
          rintro e w6 ⟨v6, cv6, rfl, _, o6, b6⟩
          have E6 := Lib.hid (own_of_list o6).ints
          have X7 := Lib.hid (X6.out.next b6)
          have S7 := Lib.hid (S6.out.next b6)
          have R7 := Lib.hid (R6.out.next b6)
          have B6 := Lib.hid (Below.next B5.out (Nat.le_refl _) b6)
          have hR7 := encodeStream_any v cap R w6 R7.out (by have := HRL.out.1; unfold maxLen; omega) (HT.out.next B6.out)
          rw [← HPP.out.2.2.1, HRL.out.1] at hR7
          have HR7 := Lib.hid hR7
          clear o6 b6 X6 S6 R6 R7 B5 P5 hR7
          go_wp2_with fail
          refine HR7.out.mono ?_
          rintro e w7 ⟨v7, cv7, rfl, _, o7, b7⟩
          have U8 := Lib.hid (own_of_list o7).ints
          have X8 := Lib.hid (X7.out.next b7)
          have S8 := Lib.hid (S7.out.next b7)
          have E8 := Lib.hid (E6.out.next b7)
          have B7 := Lib.hid (Below.next B6.out (Nat.le_refl _) b7)
          clear o7 b7 X7 S7 E6 B6 HR7
          go_wp2_with fail
          refine (addBits_any v2 v7 cv2 cv7 w7.heap.size w7.heap.size S U w7 S8.out U8.out (Nat.le_refl _) (Nat.le_refl _)).mono ?_
          rw [HPP.out.2.2.2]
          rintro e w8 ⟨v8, cv8, rfl, o8, b8⟩
          have F9 := Lib.hid (own_of_list o8).ints
          have X9 := Lib.hid (X8.out.next b8)
          have S9 := Lib.hid (S8.out.next b8)
          have E9 := Lib.hid (E8.out.next b8)
          have B8 := Lib.hid (Below.next B7.out (Nat.le_refl _) b8)
          clear o8 b8 X8 S8 E8 B7 U8
          have z6 : decide (E = E) = true := by simp
          have z7 : decide (xs = xs) = true := by simp
          go_wp2_with fail
          refine (sameInts_any v6 v8 cv6 cv8 w8.heap.size w8.heap.size E E w8 E9.out F9.out (by omega)).mono ?_
          rintro e w9 ⟨rfl, n9, rfl⟩
          have B9 := Lib.hid (below_drewN B8.out n9)
          have S10 : Hid (Ints .i64 (w8.drewN n9) (w8.drewN n9).heap.size v2 S) := S9.out
          have X10 : Hid (Ints .i64 (w8.drewN n9) (w8.drewN n9).heap.size a1 xs) := X9.out
          clear B8 S9 X9 E9 F9
          generalize w8.drewN n9 = w9 at *
          go_wp2_with fail
          refine (decodeStream_any v2 cv2 S w9 S10.out (by unfold maxLen; omega) (HT.out.next B9.out)).mono ?_
          rw [HRL.out.2.1]
          rintro e w10 ⟨v10, cv10, rfl, _, o10, b10⟩
          have Y11 := Lib.hid (own_of_list o10).ints
          have X11 := Lib.hid (X10.out.next b10)
          have S11 := Lib.hid (S10.out.next b10)
          have B10 := Lib.hid (Below.next B9.out (Nat.le_refl _) b10)
          clear o10 b10 X10 S10 B9
          go_wp2_with fail
          refine (sameInts_any v10 a1 cv10 c1 w10.heap.size w10.heap.size xs xs w10 Y11.out X11.out (by omega)).mono ?_
          rintro e w11 ⟨rfl, n11, rfl⟩
          have B11 := Lib.hid (below_drewN B10.out n11)
          have S12 : Hid (Ints .i64 (w10.drewN n11) (w10.drewN n11).heap.size v2 S) := S11.out
          clear B10 S11 X11 Y11
          generalize w10.drewN n11 = w11 at *
          go_wp2_with fail
          refine (streamErrors_any v2 cv2 S w11 S12.out (by unfold maxLen; omega) (HT.out.next B11.out)).mono ?_
          rw [HRL.out.2.2]
          rintro e w12 ⟨rfl, b12⟩
          have B12 := Lib.hid (Below.next B11.out (Nat.le_refl _) b12)
          clear b12
          go_wp2
          go_ret
          exact ⟨rfl, B12.out⟩
  · go_enter Tryd.func3, Tryd.ntmps3
    go_wp2
    go_ret
    exact ⟨rfl, Below.refl _ _⟩
end Go.Proofs.YtnjjblcigcblhaaDoor
