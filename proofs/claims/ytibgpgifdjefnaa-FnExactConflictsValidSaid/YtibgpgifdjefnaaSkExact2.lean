/-
  The laws of the exactness of ConflictsValid and SlotsValid, walked: they return true for all arguments, and write into nothing that was there. No condition.
-/
import Derived.Test.YtibgpgifdjefnaaSkEx1
import Derived.Test.YtibgpgifdjefnaaSk4
import Derived.Test.YtibgpgifdjefnaaMarks
namespace Go.Proofs.Ytibgpgifdjefnaa
open Go.RowKit

set_option maxRecDepth 100000 in
set_option maxHeartbeats 4000000 in
theorem walkExactConflictsValid (a : Option Addr) (c : Nat) (R : List (List Bool)) (w : World) (hr : TbL w w.heap.size a R) (hlc : R.length ≤ c) (hcm : c ≤ maxLen) :
    Calls Try.prog 6 #[.slice a R.length c] w fun e w' => e = .returned (.bool true) ∧ Below w.heap.size w w' := by
  have HR := Lib.hid hr
  have HS := Lib.hid (szBoolSS_any a c w.heap.size R w hr (Nat.le_trans hlc hcm))
  clear hr hlc hcm
  go_enter Try.func6, Try.ntmps6
  go_wp2_with fail
  refine HS.out.mono ?_
  rintro e w1 ⟨n, rfl, hn, rfl⟩
  clear HS
  by_cases hn0 : n < 0
  · go_wp2
    go_ret
    exact ⟨rfl, Below.refl _ _⟩
  · have HZ := Lib.hid (hn.resolve_left hn0).2
    clear hn
    go_wp2_with fail
    clear hn0
    refine (toBoolSS_any a c R w HR.out HZ.out).mono ?_
    rintro e w2 ⟨rfl, ⟨blk2, hc2⟩, b2⟩
    have T2 := Lib.hid (hc2.tbl HZ.out)
    have B2 := Lib.hid b2
    clear hc2 b2
    obtain ⟨v, hv⟩ : ∃ v, tbB R = v := ⟨_, rfl⟩
    have HV := Lib.hid hv
    clear hv
    have z : (!(v == v)) = false := by simp
    go_wp2_with fail
    refine (specConflictsValid_is (some ⟨w.heap.size, 0, none⟩) R.length w2.heap.size R v w2 T2.out (Nat.le_trans HZ.out.len (by unfold maxLen; omega)) HV.out).mono ?_
    rintro e w3 ⟨rfl, n3, hw3⟩
    have B3 := Lib.hid (show Below w.heap.size w w3 by rw [hw3]; exact below_drewN B2.out n3)
    clear hw3 T2 B2
    go_wp2_with fail
    refine (toBoolSS_any a c R w3 (HR.out.next B3.out) HZ.out).mono ?_
    rintro e w4 ⟨rfl, ⟨blk4, hc4⟩, b4⟩
    have C4 := Lib.hid hc4
    have B4 := Lib.hid (Below.next B3.out (Nat.le_refl _) b4)
    clear hc4 b4
    go_wp2_with fail
    refine (conflictsValid_is (some ⟨w3.heap.size, 0, none⟩) R.length R v w4 (C4.out.tbl HZ.out) HV.out).mono ?_
    rintro e w5 ⟨rfl, b5⟩
    have C5 := Lib.hid (C4.out.next b5)
    have B5 := Lib.hid (Below.next B4.out (Nat.le_refl _) b5)
    clear b5 C4 B4
    go_wp2_with fail
    clear z
    refine (toBoolSS_any a c R w5 (HR.out.next B5.out) HZ.out).mono ?_
    rintro e w6 ⟨rfl, ⟨blk6, hc6⟩, b6⟩
    have C6 := Lib.hid (hc6.tbl HZ.out)
    have X6 := Lib.hid ((C5.out.next b6).tbl HZ.out)
    have B6 := Lib.hid (Below.next B5.out (Nat.le_refl _) b6)
    clear hc6 b6 C5 B5
    go_wp2_with fail
    refine (eqBoolSS_same _ _ _ _ w6.heap.size w6.heap.size R w6 X6.out C6.out HZ.out).mono ?_
    rintro e w7 ⟨rfl, n7, hw7⟩
    have B7 := Lib.hid (show Below w.heap.size w w7 by rw [hw7]; exact below_drewN B6.out n7)
    clear hw7
    go_wp2
    go_ret
    exact ⟨rfl, B7.out⟩
set_option maxRecDepth 100000 in
set_option maxHeartbeats 4000000 in
theorem walkExactSlotsValid (a : Option Addr) (c : Nat) (R : List (List Bool)) (b : Option Addr) (c' : Nat) (S : List Int) (w : World) (hr : TbL w w.heap.size a R) (hlc : R.length ≤ c) (hcm : c ≤ maxLen) (hx : Ints .i64 w w.heap.size b S) (_hw : ∀ n ∈ S, (Lit.int .i64 n).wf = true) (_hc : S.length ≤ c') (_hm : c' ≤ maxLen) :
    Calls Try.prog 7 #[.slice a R.length c, .slice b S.length c'] w fun e w' => e = .returned (.bool true) ∧ Below w.heap.size w w' := by
  have HX := Lib.hid hx
  clear hx _hw _hc _hm
  by_cases hSl : S.length ≤ 1048576
  · have hSl' : ¬ (1048576 : Int) < (S.length : Int) := by omega
    have HR := Lib.hid hr
    have HS := Lib.hid (szBoolSS_any a c w.heap.size R w hr (Nat.le_trans hlc hcm))
    clear hr hlc hcm
    go_enter Try.func7, Try.ntmps7
    go_wp2_with fail
    refine HS.out.mono ?_
    rintro e w1 ⟨n, rfl, hn, rfl⟩
    clear HS
    by_cases hn0 : n < 0
    · go_wp2
      go_ret
      exact ⟨rfl, Below.refl _ _⟩
    · have HZ := Lib.hid (hn.resolve_left hn0).2
      clear hn
      go_wp2_with fail
      clear hn0
      refine (toBoolSS_any a c R w HR.out HZ.out).mono ?_
      rintro e w2 ⟨rfl, ⟨blk2, hc2⟩, b2⟩
      have T2 := Lib.hid (hc2.tbl HZ.out)
      have B2 := Lib.hid b2
      clear hc2 b2
      obtain ⟨v, hv⟩ : ∃ v, svB R S = v := ⟨_, rfl⟩
      have HV := Lib.hid hv
      clear hv
      have z : (!(v == v)) = false := by simp
      go_wp2_with fail
      clear hSl'
      refine (toIntS_any b c' w.heap.size S w2 (HX.out.below B2.out) B2.out.size hSl).mono ?_
      rintro e w3 ⟨rfl, r3, b3⟩
      have I3 := Lib.hid (ints_of_row r3 rfl r3.lt)
      have T3 := Lib.hid (T2.out.next b3)
      have B3 := Lib.hid (Below.next B2.out (Nat.le_refl _) b3)
      clear r3 b3 T2 B2
      go_wp2_with fail
      refine (specSlotsValid_is (some ⟨w.heap.size, 0, none⟩) (some ⟨w2.heap.size, 0, none⟩) R.length S.length w3.heap.size w3.heap.size R S v w3 T3.out (Nat.le_trans HZ.out.len (by unfold maxLen; omega)) I3.out HV.out).mono ?_
      rintro e w4 ⟨rfl, n4, hw4⟩
      have B4 := Lib.hid (show Below w.heap.size w w4 by rw [hw4]; exact below_drewN B3.out n4)
      clear hw4 T3 B3 I3
      go_wp2_with fail
      refine (toBoolSS_any a c R w4 (HR.out.next B4.out) HZ.out).mono ?_
      rintro e w5 ⟨rfl, ⟨blk5, hc5⟩, b5⟩
      have C5 := Lib.hid hc5
      have B5 := Lib.hid (Below.next B4.out (Nat.le_refl _) b5)
      clear hc5 b5 B4
      go_wp2_with fail
      refine (toIntS_any b c' w.heap.size S w5 (HX.out.below B5.out) B5.out.size hSl).mono ?_
      rintro e w6 ⟨rfl, r6, b6⟩
      have I6 := Lib.hid (ints_of_row r6 rfl r6.lt)
      have C6 := Lib.hid (C5.out.next b6)
      have B6 := Lib.hid (Below.next B5.out (Nat.le_refl _) b6)
      clear r6 b6 C5 B5
      go_wp2_with fail
      refine (slotsValid_is (some ⟨w4.heap.size, 0, none⟩) (some ⟨w5.heap.size, 0, none⟩) R.length S.length R S v w6 (C6.out.tbl HZ.out) I6.out HV.out).mono ?_
      rintro e w7 ⟨rfl, b7⟩
      have C7 := Lib.hid (C6.out.next b7)
      have I7 := Lib.hid ((I6.out.below b7).more b7.size)
      have B7 := Lib.hid (Below.next B6.out (Nat.le_refl _) b7)
      clear b7 C6 I6 B6
      go_wp2_with fail
      clear z
      refine (toBoolSS_any a c R w7 (HR.out.next B7.out) HZ.out).mono ?_
      rintro e w8 ⟨rfl, ⟨blk8, hc8⟩, b8⟩
      have Y8 := Lib.hid (hc8.tbl HZ.out)
      have X8 := Lib.hid ((C7.out.next b8).tbl HZ.out)
      have I8 := Lib.hid ((I7.out.below b8).more b8.size)
      have B8 := Lib.hid (Below.next B7.out (Nat.le_refl _) b8)
      clear hc8 b8 C7 I7 B7
      go_wp2_with fail
      refine (eqBoolSS_same _ _ _ _ w8.heap.size w8.heap.size R w8 X8.out Y8.out HZ.out).mono ?_
      rintro e w9 ⟨rfl, n9, hw9⟩
      have hs9 : Hid (w9.heap.size = w8.heap.size) := by show _ = _; rw [hw9]; rfl
      have B9 := Lib.hid (show Below w.heap.size w w9 by rw [hw9]; exact below_drewN B8.out n9)
      have I9 := Lib.hid (show Ints .i64 w9 w9.heap.size (some ⟨w5.heap.size, 0, none⟩) S by rw [hw9]; exact I8.out.drewN n9)
      clear hw9 B8 I8
      go_wp2_with fail
      refine (toIntS_any b c' w.heap.size S w9 (HX.out.below B9.out) B9.out.size hSl).mono ?_
      rintro e w10 ⟨rfl, r10, b10⟩
      have J10 := Lib.hid (ints_of_row r10 rfl r10.lt)
      have I10 := Lib.hid ((I9.out.below b10).more b10.size)
      have B10 := Lib.hid (Below.next B9.out (Nat.le_refl _) b10)
      clear r10 b10
      have zs : decide (S = S) = true := by simp
      go_wp2_with fail
      refine (eqIntS_any _ _ _ _ w10.heap.size w10.heap.size S S w10 I10.out J10.out hSl).mono ?_
      rintro e w11 ⟨rfl, n11, hw11⟩
      have B11 := Lib.hid (show Below w.heap.size w w11 by rw [hw11]; exact below_drewN B10.out n11)
      clear hw11
      go_wp2
      go_ret
      exact ⟨rfl, B11.out⟩
  · have hSl' : (1048576 : Int) < (S.length : Int) := by omega
    go_enter Try.func7, Try.ntmps7
    go_wp2
    go_ret
    exact ⟨rfl, Below.refl _ _⟩
end Go.Proofs.Ytibgpgifdjefnaa
