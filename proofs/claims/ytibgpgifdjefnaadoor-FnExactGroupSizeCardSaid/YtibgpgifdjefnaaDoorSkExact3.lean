/-
  The law of the exactness of GroupSize, walked: it returns true for all arguments, and writes into nothing that was there. Condition: the table of package math/bits lies in its variable.
-/
import Derived.Test.YtibgpgifdjefnaaDoorSkEx1
import Derived.Test.YtibgpgifdjefnaaDoorSk9
namespace Go.Proofs.YtibgpgifdjefnaaDoor
open Go.RowKit

set_option maxRecDepth 100000 in
set_option maxHeartbeats 4000000 in
theorem walkExactGroupSize (a : Option Addr) (c : Nat) (R : List (List Bool)) (w : World) (hr : TbL w w.heap.size a R) (hlc : R.length ≤ c) (hcm : c ≤ maxLen) (hT : DbTab w) :
    Calls Tryd.prog 6 #[.slice a R.length c] w fun e w' => e = .returned (.bool true) ∧ Below w.heap.size w w' := by
  have HR := Lib.hid hr
  have HS := Lib.hid (szBoolSS_any a c w.heap.size R w hr (Nat.le_trans hlc hcm))
  clear hr hlc hcm
  have D0 := Lib.hid hT
  clear hT
  go_enter Tryd.func6, Tryd.ntmps6
  go_wp2_with fail
  refine HS.out.mono ?_
  rintro e w1 ⟨n, rfl, hn, rfl⟩
  clear HS
  by_cases hn0 : n < 0
  · go_wp2
    go_ret
    exact ⟨rfl, Below.refl _ _⟩
  · have HZ := Lib.hid (hn.resolve_left hn0).2
    clear hn
    go_wp2_with fail
    clear hn0
    refine (toBoolSS_any a c R w HR.out HZ.out).mono ?_
    rintro e w2 ⟨rfl, ⟨blk2, hc2⟩, b2⟩
    have T2 := Lib.hid (hc2.tbl HZ.out)
    have B2 := Lib.hid b2
    clear hc2 b2
    obtain ⟨v, hv⟩ : ∃ v, gpO R = v := ⟨_, rfl⟩
    have HV := Lib.hid hv
    clear hv
    have z : (v != v) = false := by simp
    go_wp2_with fail
    refine (specGroupSize_is (some ⟨w.heap.size, 0, none⟩) R.length w2.heap.size R w2 T2.out (Nat.le_trans HZ.out.len (by unfold maxLen; omega))).mono ?_
    rw [HV.out]
    rintro e w3 ⟨rfl, n3, hw3⟩
    have B3 := Lib.hid (show Below w.heap.size w w3 by rw [hw3]; exact below_drewN B2.out n3)
    clear hw3 T2 B2
    go_wp2_with fail
    refine (toBoolSS_any a c R w3 (HR.out.next B3.out) HZ.out).mono ?_
    rintro e w4 ⟨rfl, ⟨blk4, hc4⟩, b4⟩
    have C4 := Lib.hid hc4
    have B4 := Lib.hid (Below.next B3.out (Nat.le_refl _) b4)
    clear hc4 b4
    go_wp2_with fail
    refine (groupSize_is (some ⟨w3.heap.size, 0, none⟩) R.length R w4 (C4.out.tbl HZ.out) (D0.out.next B4.out)).mono ?_
    rw [HV.out]
    rintro e w5 ⟨rfl, b5⟩
    have C5 := Lib.hid (C4.out.next b5)
    have B5 := Lib.hid (Below.next B4.out (Nat.le_refl _) b5)
    clear b5 C4 B4
    go_wp2_with fail
    clear z
    refine (toBoolSS_any a c R w5 (HR.out.next B5.out) HZ.out).mono ?_
    rintro e w6 ⟨rfl, ⟨blk6, hc6⟩, b6⟩
    have C6 := Lib.hid (hc6.tbl HZ.out)
    have X6 := Lib.hid ((C5.out.next b6).tbl HZ.out)
    have B6 := Lib.hid (Below.next B5.out (Nat.le_refl _) b6)
    clear hc6 b6 C5 B5
    go_wp2_with fail
    refine (eqBoolSS_same _ _ _ _ w6.heap.size w6.heap.size R w6 X6.out C6.out HZ.out).mono ?_
    rintro e w7 ⟨rfl, n7, hw7⟩
    have B7 := Lib.hid (show Below w.heap.size w w7 by rw [hw7]; exact below_drewN B6.out n7)
    clear hw7
    go_wp2
    go_ret
    exact ⟨rfl, B7.out⟩
end Go.Proofs.YtibgpgifdjefnaaDoor
