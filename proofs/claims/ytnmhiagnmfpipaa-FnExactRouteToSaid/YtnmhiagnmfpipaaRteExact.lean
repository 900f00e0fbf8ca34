/-
  The laws of the exactness of CostsValid and NextStation, walked: they return true for all arguments, and write into nothing that was there. No condition.
-/
import Derived.Test.YtnmhiagnmfpipaaRteC
import Derived.Test.YtnmhiagnmfpipaaRowsI
namespace Go.Proofs.Ytnmhiagnmfpipaa
open Go.RowKit

theorem SzOk.len {R : List (List Int)} (h : SzOk R) : R.length ≤ 1048576 := by unfold SzOk at h; omega
set_option maxRecDepth 10000 in
theorem calls_below {f : FuncId} {args : Array Value} {w : World} {r : Value} (h : Calls Try.prog f args w fun e w' => e = .returned r ∧ w = w') : Calls Try.prog f args w fun e w' => e = .returned r ∧ Below w.heap.size w w' :=
  h.mono fun _ _ ⟨h1, h2⟩ => ⟨h1, by subst h2; exact Below.refl _ _⟩
set_option maxRecDepth 100000 in
set_option maxHeartbeats 4000000 in
theorem walkExactCostsValid (a : Option Addr) (c : Nat) (R : List (List Int)) (w : World) (hr : RowsL w w.heap.size a R) (hlc : R.length ≤ c) (hcm : c ≤ maxLen) :
    Calls Try.prog 10 #[.slice a R.length c] w fun e w' => e = .returned (.bool true) ∧ Below w.heap.size w w' := by
  have HR := Lib.hid hr
  have HS := Lib.hid (szIntSS_any a c w.heap.size R w hr (Nat.le_trans hlc hcm))
  clear hr hlc hcm
  go_enter Try.func10, Try.ntmps10
  go_wp2_with fail
  refine HS.out.mono ?_
  rintro e w1 ⟨n, rfl, hn, rfl⟩
  clear HS
  by_cases hn0 : n < 0
  · go_wp2
    go_ret
    exact ⟨rfl, Below.refl _ _⟩
  · have HZ := Lib.hid (hn.resolve_left hn0).2
    clear hn
    go_wp2_with fail
    clear hn0
    refine (toIntSS_any a c R w HR.out HZ.out).mono ?_
    rintro e w2 ⟨rfl, ⟨blk2, hc2⟩, b2⟩
    have T2 := Lib.hid (hc2.rows fun i hi => HZ.out.row hi)
    have B2 := Lib.hid b2
    clear hc2 b2
    obtain ⟨v, hv⟩ : ∃ v, decide (TiOk R) = v := ⟨_, rfl⟩
    have HV := Lib.hid hv
    clear hv
    have z : (!(v == v)) = false := by simp
    go_wp2_with fail
    refine (calls_below (specCostsValid_is (some ⟨w.heap.size, 0, none⟩) R.length w2.heap.size R v w2 T2.out HZ.out.len HV.out)).mono ?_
    rintro e w3 ⟨rfl, b3⟩
    have B3 := Lib.hid (Below.next B2.out (Nat.le_refl _) b3)
    clear b3 T2 B2
    go_wp2_with fail
    refine (toIntSS_any a c R w3 (HR.out.next B3.out) HZ.out).mono ?_
    rintro e w4 ⟨rfl, ⟨blk4, hc4⟩, b4⟩
    have C4 := Lib.hid hc4
    have B4 := Lib.hid (Below.next B3.out (Nat.le_refl _) b4)
    clear hc4 b4
    go_wp2_with fail
    refine (calls_below (costsValid_is (some ⟨w3.heap.size, 0, none⟩) R.length w4.heap.size R v w4 (C4.out.rows fun i hi => HZ.out.row hi) HV.out)).mono ?_
    rintro e w5 ⟨rfl, b5⟩
    have C5 := Lib.hid (C4.out.next b5)
    have B5 := Lib.hid (Below.next B4.out (Nat.le_refl _) b5)
    clear b5 C4 B4
    go_wp2_with fail
    clear z
    refine (toIntSS_any a c R w5 (HR.out.next B5.out) HZ.out).mono ?_
    rintro e w6 ⟨rfl, ⟨blk6, hc6⟩, b6⟩
    have C6 := Lib.hid (hc6.rows fun i hi => HZ.out.row hi)
    have X6 := Lib.hid ((C5.out.next b6).rows fun i hi => HZ.out.row hi)
    have B6 := Lib.hid (Below.next B5.out (Nat.le_refl _) b6)
    clear hc6 b6 C5 B5
    go_wp2_with fail
    refine (eqIntSS_same _ _ _ _ w6.heap.size w6.heap.size R w6 X6.out C6.out HZ.out).mono ?_
    rintro e w7 ⟨rfl, n7, hw7⟩
    have B7 := Lib.hid (show Below w.heap.size w w7 by rw [hw7]; exact below_drewN B6.out n7)
    clear hw7
    go_wp2
    go_ret
    exact ⟨rfl, B7.out⟩
set_option maxRecDepth 100000 in
set_option maxHeartbeats 4000000 in
theorem walkExactNextStation (a : Option Addr) (c : Nat) (R : List (List Int)) (p : Int) (q : Int) (w : World) (hr : RowsL w w.heap.size a R) (hlc : R.length ≤ c) (hcm : c ≤ maxLen) :
    Calls Try.prog 12 #[.slice a R.length c, .int .i64 p, .int .i64 q] w fun e w' => e = .returned (.bool true) ∧ Below w.heap.size w w' := by
  have HR := Lib.hid hr
  have HS := Lib.hid (szIntSS_any a c w.heap.size R w hr (Nat.le_trans hlc hcm))
  clear hr hlc hcm
  go_enter Try.func12, Try.ntmps12
  go_wp2_with fail
  refine HS.out.mono ?_
  rintro e w1 ⟨n, rfl, hn, rfl⟩
  clear HS
  by_cases hn0 : n < 0
  · go_wp2
    go_ret
    exact ⟨rfl, Below.refl _ _⟩
  · have HZ := Lib.hid (hn.resolve_left hn0).2
    clear hn
    go_wp2_with fail
    clear hn0
    refine (toIntSS_any a c R w HR.out HZ.out).mono ?_
    rintro e w2 ⟨rfl, ⟨blk2, hc2⟩, b2⟩
    have T2 := Lib.hid (hc2.rows fun i hi => HZ.out.row hi)
    have B2 := Lib.hid b2
    clear hc2 b2
    obtain ⟨v, hv⟩ : ∃ v, nxOr R p q = v := ⟨_, rfl⟩
    have HV := Lib.hid hv
    clear hv
    have z : (v != v) = false := by simp
    go_wp2_with fail
    refine (specNextStation_any (some ⟨w.heap.size, 0, none⟩) R.length R p q w2 T2.out HZ.out.len).mono ?_
    rw [HV.out]
    rintro e w3 ⟨rfl, b3⟩
    have B3 := Lib.hid (Below.next B2.out (Nat.le_refl _) b3)
    clear b3 T2 B2
    go_wp2_with fail
    refine (toIntSS_any a c R w3 (HR.out.next B3.out) HZ.out).mono ?_
    rintro e w4 ⟨rfl, ⟨blk4, hc4⟩, b4⟩
    have C4 := Lib.hid hc4
    have B4 := Lib.hid (Below.next B3.out (Nat.le_refl _) b4)
    clear hc4 b4
    go_wp2_with fail
    refine (nextStation_any (some ⟨w3.heap.size, 0, none⟩) R.length R p q w4 (C4.out.rows fun i hi => HZ.out.row hi)).mono ?_
    rw [HV.out]
    rintro e w5 ⟨rfl, b5⟩
    have C5 := Lib.hid (C4.out.next b5)
    have B5 := Lib.hid (Below.next B4.out (Nat.le_refl _) b5)
    clear b5 C4 B4
    go_wp2_with fail
    clear z
    refine (toIntSS_any a c R w5 (HR.out.next B5.out) HZ.out).mono ?_
    rintro e w6 ⟨rfl, ⟨blk6, hc6⟩, b6⟩
    have C6 := Lib.hid (hc6.rows fun i hi => HZ.out.row hi)
    have X6 := Lib.hid ((C5.out.next b6).rows fun i hi => HZ.out.row hi)
    have B6 := Lib.hid (Below.next B5.out (Nat.le_refl _) b6)
    clear hc6 b6 C5 B5
    go_wp2_with fail
    refine (eqIntSS_same _ _ _ _ w6.heap.size w6.heap.size R w6 X6.out C6.out HZ.out).mono ?_
    rintro e w7 ⟨rfl, n7, hw7⟩
    have B7 := Lib.hid (show Below w.heap.size w w7 by rw [hw7]; exact below_drewN B6.out n7)
    clear hw7
    go_wp2
    go_ret
    exact ⟨rfl, B7.out⟩
end Go.Proofs.Ytnmhiagnmfpipaa
