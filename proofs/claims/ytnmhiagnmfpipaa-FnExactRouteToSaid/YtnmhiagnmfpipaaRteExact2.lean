/-
  The laws of the exactness of LeastCosts and RouteTo, walked: they return true for all arguments, and write into nothing that was there. No condition.
-/
import Derived.Test.YtnmhiagnmfpipaaRteExact
import Derived.Test.YtnmhiagnmfpipaaRte10
import Derived.Test.YtnmhiagnmfpipaaMarks
namespace Go.Proofs.Ytnmhiagnmfpipaa
open Go.RowKit

/-- A list that lies below block B0. -/
structure LJR (W : World) (B0 : Nat) (x : Option Addr) (xs : List Int) : Prop where
  i : Ints .i64 W B0 x xs
  s : B0 ≤ W.heap.size
section
variable {W W' : World} {B0 : Nat} {x : Option Addr} {xs : List Int}
theorem LJR.next (h : LJR W B0 x xs) (hb : Below W.heap.size W W') : LJR W' B0 x xs := ⟨h.i.below (hb.mono h.s), Nat.le_trans h.s hb.size⟩
theorem LJR.kept {D E : Nat} (h : LJR W B0 x xs) (hk : KeptOut D E W W') (hd : B0 ≤ D) : LJR W' B0 x xs := ⟨h.i.out hk hd h.s, Nat.le_trans h.s hk.size⟩
end
set_option maxRecDepth 10000 in
theorem specs_listR {L S : List Int} {f : FuncId} {args : Array Value} {w : World} (hS : L = S) (h : Calls Try.prog f args w (ListPostC L w)) : Calls Try.prog f args w fun e w' => ∃ a c, e = .returned (.slice a S.length c) ∧ Own .i64 3 w' w.heap.size w'.heap.size a S ∧ Below w.heap.size w w' := by
  subst hS
  exact h.mono fun _ _ ⟨a, c, h1, _, h3, h4⟩ => ⟨a, c, h1, own_of_list h3, h4⟩
theorem lsOr_small (R : List (List Int)) (t : Int) : (lsOr R t).length ≤ 1048576 := by
  by_cases h : LsOk R t
  · obtain ⟨to, rfl, hto, hok⟩ := lsOk_cases h
    rw [lsOr_yes hok hto, lcL_len]
    have := hok.1
    omega
  · rw [lsOr_no h]; exact Nat.zero_le _
theorem rtOr_small (R : List (List Int)) (f t : Int) : (rtOr R f t).length ≤ 1048576 := by
  by_cases h : RtYes R f t
  · obtain ⟨i, to, rfl, rfl, hi, hto, hok⟩ := endsOk_cases h.1
    rw [rtOr_yes h, rtI_len]
    have h1 := (rtL_ok hto hi h.2).len
    have := hok.1
    omega
  · rw [rtOr_no h]; exact Nat.zero_le _
set_option maxRecDepth 100000 in
set_option maxHeartbeats 4000000 in
theorem walkExactLeastCosts (a : Option Addr) (c : Nat) (R : List (List Int)) (q : Int) (w : World) (hr : RowsL w w.heap.size a R) (hlc : R.length ≤ c) (hcm : c ≤ maxLen) :
    Calls Try.prog 11 #[.slice a R.length c, .int .i64 q] w fun e w' => e = .returned (.bool true) ∧ Below w.heap.size w w' := by
  have HR := Lib.hid hr
  have HS := Lib.hid (szIntSS_any a c w.heap.size R w hr (Nat.le_trans hlc hcm))
  clear hr hlc hcm
  go_enter Try.func11, Try.ntmps11
  go_wp2_with fail
  refine HS.out.mono ?_
  rintro e w1 ⟨n, rfl, hn, rfl⟩
  clear HS
  by_cases hn0 : n < 0
  · go_wp2
    go_ret
    exact ⟨rfl, Below.refl _ _⟩
  · have HZ := Lib.hid (hn.resolve_left hn0).2
    clear hn
    go_wp2_with fail
    clear hn0
    refine (toIntSS_any a c R w HR.out HZ.out).mono ?_
    rintro e w2 ⟨rfl, ⟨blk2, hc2⟩, b2⟩
    have T2 := Lib.hid (hc2.rows fun i hi => HZ.out.row hi)
    have B2 := Lib.hid b2
    clear hc2 b2
    obtain ⟨S, hS⟩ : ∃ S, lsOr R q = S := ⟨_, rfl⟩
    have hSl : S.length ≤ 1048576 := by rw [← hS]; exact lsOr_small R q
    have HD := Lib.hid hS
    clear hS
    have zs : decide (S = S) = true := by simp
    have HSp := Lib.hid (specs_listR HD.out (specLeastCosts_any (some ⟨w.heap.size, 0, none⟩) R.length R q w2 T2.out HZ.out.len))
    go_wp2_with fail
    refine HSp.out.mono ?_
    rintro e w4 ⟨x0, cx0, rfl, o4, b4⟩
    have W4 : Hid (LJR w4 w4.heap.size x0 S) := ⟨o4.ints, Nat.le_refl _⟩
    have B4 := Lib.hid (Below.next B2.out (Nat.le_refl _) b4)
    clear o4 b4 T2 B2 HSp
    go_wp2_with fail
    refine (toIntSS_any a c R w4 (HR.out.next B4.out) HZ.out).mono ?_
    rintro e w5 ⟨rfl, ⟨blk5, hc5⟩, b5⟩
    have C5 := Lib.hid hc5
    have HK : Hid (∀ i, i < R.length → blk5 i < w5.heap.size) := fun i hi => (hc5.at_ i hi).2.lt
    have W5 := Lib.hid (W4.out.next b5)
    have B5 := Lib.hid (Below.next B4.out (Nat.le_refl _) b5)
    have s5 : w4.heap.size ≤ w5.heap.size := b5.size
    clear hc5 b5 W4
    have HIm := Lib.hid (specs_listR HD.out (leastCosts_any (some ⟨w4.heap.size, 0, none⟩) R.length R q w5 (C5.out.rows fun i hi => HZ.out.row hi)))
    go_wp2_with fail
    refine HIm.out.mono ?_
    rintro e w7 ⟨g0, cg0, rfl, o7, b7⟩
    have G7 := Lib.hid o7
    have C7 := Lib.hid (C5.out.next b7)
    have W7 := Lib.hid (W5.out.next b7)
    have B7 := Lib.hid (Below.next B5.out (Nat.le_refl _) b7)
    have s7 : w5.heap.size ≤ w7.heap.size := b7.size
    clear o7 b7 C5 W5 B5 HIm
    go_wp2_with fail
    refine (eqIntS_any _ _ _ _ w7.heap.size w4.heap.size S S w7 G7.out.ints W7.out.i hSl).mono ?_
    rintro e w8 ⟨rfl, n8, hw8⟩
    have hs8 : Hid (w8.heap.size = w7.heap.size) := by show _ = _; rw [hw8]; rfl
    have G8 := Lib.hid (show Own .i64 3 w8 w5.heap.size w7.heap.size g0 S by rw [hw8]; exact G7.out.drewN n8)
    have C8 := Lib.hid (show CpR w8 w4.heap.size R R.length blk5 by rw [hw8]; exact C7.out.next (below_drewN (Below.refl _ _) n8))
    have W8 := Lib.hid (show LJR w8 w4.heap.size x0 S by rw [hw8]; exact W7.out.next (below_drewN (Below.refl _ _) n8))
    have B8 := Lib.hid (show Below w.heap.size w w8 by rw [hw8]; exact below_drewN B7.out n8)
    clear hw8 G7 C7 W7 B7
    go_wp2_with fail
    refine (toIntSS_any a c R w8 (HR.out.next B8.out) HZ.out).mono ?_
    rintro e w9 ⟨rfl, ⟨blk9, hc9⟩, b9⟩
    have Y9 := Lib.hid (hc9.rows fun i hi => HZ.out.row hi)
    have C9 := Lib.hid (C8.out.next b9)
    have G9 := Lib.hid (G8.out.next b9)
    have W9 := Lib.hid (W8.out.next b9)
    have B9 := Lib.hid (Below.next B8.out (Nat.le_refl _) b9)
    have s9 : w7.heap.size ≤ w9.heap.size := by have := b9.size; have := hs8.out; omega
    clear hc9 b9 C8 G8 W8 B8
    go_wp2_with fail
    refine (eqIntSS_same _ _ _ _ w9.heap.size w9.heap.size R w9 (C9.out.rows fun i hi => HZ.out.row hi) Y9.out HZ.out).mono ?_
    rintro e w11 ⟨rfl, n11, hw11⟩
    have hs11 : Hid (w11.heap.size = w9.heap.size) := by show _ = _; rw [hw11]; rfl
    have G11 := Lib.hid (show Own .i64 3 w11 w5.heap.size w7.heap.size g0 S by rw [hw11]; exact G9.out.drewN n11)
    have C11 := Lib.hid (show CpR w11 w4.heap.size R R.length blk5 by rw [hw11]; exact C9.out.next (below_drewN (Below.refl _ _) n11))
    have W11 := Lib.hid (show LJR w11 w4.heap.size x0 S by rw [hw11]; exact W9.out.next (below_drewN (Below.refl _ _) n11))
    have B11 := Lib.hid (show Below w.heap.size w w11 by rw [hw11]; exact below_drewN B9.out n11)
    clear hw11 G9 C9 W9 B9 Y9
    go_wp2_with fail
    refine (markIntSS_any w4.heap.size R.length w5.heap.size R blk5 w11 C11.out HK.out HZ.out).mono ?_
    rintro e w12 ⟨K, rfl, hK, k12⟩
    have hk2 : ¬ ((K : Int) < 0) := by omega
    have G12 := Lib.hid (G11.out.keep k12 (.inr (Nat.le_refl _)))
    have W12 := Lib.hid (W11.out.kept k12 (Nat.le_refl _))
    have hb4 := B4.out.size
    have B12 := Lib.hid (B11.out.trans ((k12.below (by have := hs11.out; omega)).mono hb4))
    have s12 : w11.heap.size ≤ w12.heap.size := k12.size
    clear k12 G11 C11 W11 B11
    go_wp2_with fail
    refine (eqIntS_any _ _ _ _ w7.heap.size w4.heap.size S S w12 G12.out.ints W12.out.i hSl).mono ?_
    rintro e w14 ⟨rfl, n14, hw14⟩
    have hs14 : Hid (w14.heap.size = w12.heap.size) := by show _ = _; rw [hw14]; rfl
    have G14 := Lib.hid (show Own .i64 3 w14 w5.heap.size w7.heap.size g0 S by rw [hw14]; exact G12.out.drewN n14)
    have W14 := Lib.hid (show LJR w14 w4.heap.size x0 S by rw [hw14]; exact W12.out.next (below_drewN (Below.refl _ _) n14))
    have B14 := Lib.hid (show Below w.heap.size w w14 by rw [hw14]; exact below_drewN B12.out n14)
    clear hw14 G12 W12 B12
    go_wp2_with fail
    clear hk2
    refine (markIntS_own g0 _ 1 w5.heap.size w7.heap.size S w14 G14.out hSl (by omega)).mono ?_
    rintro e w15 ⟨rfl, g15, k15⟩
    have G15 := Lib.hid g15
    have W15 := Lib.hid (W14.out.kept k15 s5)
    have B15 := Lib.hid (B14.out.trans ((k15.below (by have := hs14.out; have := hs11.out; omega)).mono (Nat.le_trans hb4 s5)))
    have s15 : w14.heap.size ≤ w15.heap.size := k15.size
    clear g15 k15 G14 W14 B14
    go_wp2_with fail
    refine (heldIntS_any g0 w7.heap.size _ S.length 1 w15 G15.out.ints hSl (by omega)).mono ?_
    rintro e w16' ⟨rfl, rfl⟩
    go_wp2_with fail
    refine (toIntSS_any a c R w15 (HR.out.next B15.out) HZ.out).mono ?_
    rintro e w16 ⟨rfl, ⟨blk16, hc16⟩, b16⟩
    have Y16 := Lib.hid (hc16.rows fun i hi => HZ.out.row hi)
    have G16 := Lib.hid (G15.out.next b16)
    have W16 := Lib.hid (W15.out.next b16)
    have B16 := Lib.hid (Below.next B15.out (Nat.le_refl _) b16)
    clear hc16 b16 G15 W15 B15
    have HIm2 := Lib.hid (specs_listR HD.out (leastCosts_any (some ⟨w15.heap.size, 0, none⟩) R.length R q w16 Y16.out))
    go_wp2_with fail
    refine HIm2.out.mono ?_
    rintro e w18 ⟨h0, ch0, rfl, o18, b18⟩
    have H18 := Lib.hid o18.ints
    have G18 := Lib.hid (G16.out.next b18)
    have W18 := Lib.hid (W16.out.next b18)
    have B18 := Lib.hid (Below.next B16.out (Nat.le_refl _) b18)
    clear o18 b18 G16 W16 B16 HIm2
    go_wp2_with fail
    refine (eqIntS_any _ _ _ _ w18.heap.size w4.heap.size S S w18 H18.out W18.out.i hSl).mono ?_
    rintro e w19 ⟨rfl, n19, hw19⟩
    have G19 := Lib.hid (show Own .i64 3 w19 w5.heap.size w7.heap.size g0 (marks 1 S.length) by rw [hw19]; exact G18.out.drewN n19)
    have B19 := Lib.hid (show Below w.heap.size w w19 by rw [hw19]; exact below_drewN B18.out n19)
    clear hw19
    go_wp2_with fail
    refine (heldIntS_any g0 w7.heap.size _ S.length 1 w19 G19.out.ints hSl (by omega)).mono ?_
    rintro e w20 ⟨rfl, rfl⟩
    go_wp2
    go_ret
    exact ⟨rfl, B19.out⟩
set_option maxRecDepth 100000 in
set_option maxHeartbeats 4000000 in
theorem walkExactRouteTo (a : Option Addr) (c : Nat) (R : List (List Int)) (p : Int) (q : Int) (w : World) (hr : RowsL w w.heap.size a R) (hlc : R.length ≤ c) (hcm : c ≤ maxLen) :
    Calls Try.prog 13 #[.slice a R.length c, .int .i64 p, .int .i64 q] w fun e w' => e = .returned (.bool true) ∧ Below w.heap.size w w' := by
  have HR := Lib.hid hr
  have HS := Lib.hid (szIntSS_any a c w.heap.size R w hr (Nat.le_trans hlc hcm))
  clear hr hlc hcm
  go_enter Try.func13, Try.ntmps13
  go_wp2_with fail
  refine HS.out.mono ?_
  rintro e w1 ⟨n, rfl, hn, rfl⟩
  clear HS
  by_cases hn0 : n < 0
  · go_wp2
    go_ret
    exact ⟨rfl, Below.refl _ _⟩
  · have HZ := Lib.hid (hn.resolve_left hn0).2
    clear hn
    go_wp2_with fail
    clear hn0
    refine (toIntSS_any a c R w HR.out HZ.out).mono ?_
    rintro e w2 ⟨rfl, ⟨blk2, hc2⟩, b2⟩
    have T2 := Lib.hid (hc2.rows fun i hi => HZ.out.row hi)
    have B2 := Lib.hid b2
    clear hc2 b2
    obtain ⟨S, hS⟩ : ∃ S, rtOr R p q = S := ⟨_, rfl⟩
    have hSl : S.length ≤ 1048576 := by rw [← hS]; exact rtOr_small R p q
    have HD := Lib.hid hS
    clear hS
    have zs : decide (S = S) = true := by simp
    have HSp := Lib.hid (specs_listR HD.out (specRouteTo_any (some ⟨w.heap.size, 0, none⟩) R.length R p q w2 T2.out HZ.out.len))
    go_wp2_with fail
    refine HSp.out.mono ?_
    rintro e w4 ⟨x0, cx0, rfl, o4, b4⟩
    have W4 : Hid (LJR w4 w4.heap.size x0 S) := ⟨o4.ints, Nat.le_refl _⟩
    have B4 := Lib.hid (Below.next B2.out (Nat.le_refl _) b4)
    clear o4 b4 T2 B2 HSp
    go_wp2_with fail
    refine (toIntSS_any a c R w4 (HR.out.next B4.out) HZ.out).mono ?_
    rintro e w5 ⟨rfl, ⟨blk5, hc5⟩, b5⟩
    have C5 := Lib.hid hc5
    have HK : Hid (∀ i, i < R.length → blk5 i < w5.heap.size) := fun i hi => (hc5.at_ i hi).2.lt
    have W5 := Lib.hid (W4.out.next b5)
    have B5 := Lib.hid (Below.next B4.out (Nat.le_refl _) b5)
    have s5 : w4.heap.size ≤ w5.heap.size := b5.size
    clear hc5 b5 W4
    have HIm := Lib.hid (specs_listR HD.out (routeTo_any (some ⟨w4.heap.size, 0, none⟩) R.length R p q w5 (C5.out.rows fun i hi => HZ.out.row hi)))
    go_wp2_with fail
    refine HIm.out.mono ?_
    rintro e w7 ⟨g0, cg0, rfl, o7, b7⟩
    have G7 := Lib.hid o7
    have C7 := Lib.hid (C5.out.next b7)
    have W7 := Lib.hid (W5.out.next b7)
    have B7 := Lib.hid (Below.next B5.out (Nat.le_refl _) b7)
    have s7 : w5.heap.size ≤ w7.heap.size := b7.size
    clear o7 b7 C5 W5 B5 HIm
    go_wp2_with fail
    refine (eqIntS_any _ _ _ _ w7.heap.size w4.heap.size S S w7 G7.out.ints W7.out.i hSl).mono ?_
    rintro e w8 ⟨rfl, n8, hw8⟩
    have hs8 : Hid (w8.heap.size = w7.heap.size) := by show _ = _; rw [hw8]; rfl
    have G8 := Lib.hid (show Own .i64 3 w8 w5.heap.size w7.heap.size g0 S by rw [hw8]; exact G7.out.drewN n8)
    have C8 := Lib.hid (show CpR w8 w4.heap.size R R.length blk5 by rw [hw8]; exact C7.out.next (below_drewN (Below.refl _ _) n8))
    have W8 := Lib.hid (show LJR w8 w4.heap.size x0 S by rw [hw8]; exact W7.out.next (below_drewN (Below.refl _ _) n8))
    have B8 := Lib.hid (show Below w.heap.size w w8 by rw [hw8]; exact below_drewN B7.out n8)
    clear hw8 G7 C7 W7 B7
    go_wp2_with fail
    refine (toIntSS_any a c R w8 (HR.out.next B8.out) HZ.out).mono ?_
    rintro e w9 ⟨rfl, ⟨blk9, hc9⟩, b9⟩
    have Y9 := Lib.hid (hc9.rows fun i hi => HZ.out.row hi)
    have C9 := Lib.hid (C8.out.next b9)
    have G9 := Lib.hid (G8.out.next b9)
    have W9 := Lib.hid (W8.out.next b9)
    have B9 := Lib.hid (Below.next B8.out (Nat.le_refl _) b9)
    have s9 : w7.heap.size ≤ w9.heap.size := by have := b9.size; have := hs8.out; omega
    clear hc9 b9 C8 G8 W8 B8
    go_wp2_with fail
    refine (eqIntSS_same _ _ _ _ w9.heap.size w9.heap.size R w9 (C9.out.rows fun i hi => HZ.out.row hi) Y9.out HZ.out).mono ?_
    rintro e w11 ⟨rfl, n11, hw11⟩
    have hs11 : Hid (w11.heap.size = w9.heap.size) := by show _ = _; rw [hw11]; rfl
    have G11 := Lib.hid (show Own .i64 3 w11 w5.heap.size w7.heap.size g0 S by rw [hw11]; exact G9.out.drewN n11)
    have C11 := Lib.hid (show CpR w11 w4.heap.size R R.length blk5 by rw [hw11]; exact C9.out.next (below_drewN (Below.refl _ _) n11))
    have W11 := Lib.hid (show LJR w11 w4.heap.size x0 S by rw [hw11]; exact W9.out.next (below_drewN (Below.refl _ _) n11))
    have B11 := Lib.hid (show Below w.heap.size w w11 by rw [hw11]; exact below_drewN B9.out n11)
    clear hw11 G9 C9 W9 B9 Y9
    go_wp2_with fail
    refine (markIntSS_any w4.heap.size R.length w5.heap.size R blk5 w11 C11.out HK.out HZ.out).mono ?_
    rintro e w12 ⟨K, rfl, hK, k12⟩
    have hk2 : ¬ ((K : Int) < 0) := by omega
    have G12 := Lib.hid (G11.out.keep k12 (.inr (Nat.le_refl _)))
    have W12 := Lib.hid (W11.out.kept k12 (Nat.le_refl _))
    have hb4 := B4.out.size
    have B12 := Lib.hid (B11.out.trans ((k12.below (by have := hs11.out; omega)).mono hb4))
    have s12 : w11.heap.size ≤ w12.heap.size := k12.size
    clear k12 G11 C11 W11 B11
    go_wp2_with fail
    refine (eqIntS_any _ _ _ _ w7.heap.size w4.heap.size S S w12 G12.out.ints W12.out.i hSl).mono ?_
    rintro e w14 ⟨rfl, n14, hw14⟩
    have hs14 : Hid (w14.heap.size = w12.heap.size) := by show _ = _; rw [hw14]; rfl
    have G14 := Lib.hid (show Own .i64 3 w14 w5.heap.size w7.heap.size g0 S by rw [hw14]; exact G12.out.drewN n14)
    have W14 := Lib.hid (show LJR w14 w4.heap.size x0 S by rw [hw14]; exact W12.out.next (below_drewN (Below.refl _ _) n14))
    have B14 := Lib.hid (show Below w.heap.size w w14 by rw [hw14]; exact below_drewN B12.out n14)
    clear hw14 G12 W12 B12
    go_wp2_with fail
    clear hk2
    refine (markIntS_own g0 _ 1 w5.heap.size w7.heap.size S w14 G14.out hSl (by omega)).mono ?_
    rintro e w15 ⟨rfl, g15, k15⟩
    have G15 := Lib.hid g15
    have W15 := Lib.hid (W14.out.kept k15 s5)
    have B15 := Lib.hid (B14.out.trans ((k15.below (by have := hs14.out; have := hs11.out; omega)).mono (Nat.le_trans hb4 s5)))
    have s15 : w14.heap.size ≤ w15.heap.size := k15.size
    clear g15 k15 G14 W14 B14
    go_wp2_with fail
    refine (heldIntS_any g0 w7.heap.size _ S.length 1 w15 G15.out.ints hSl (by omega)).mono ?_
    rintro e w16' ⟨rfl, rfl⟩
    go_wp2_with fail
    refine (toIntSS_any a c R w15 (HR.out.next B15.out) HZ.out).mono ?_
    rintro e w16 ⟨rfl, ⟨blk16, hc16⟩, b16⟩
    have Y16 := Lib.hid (hc16.rows fun i hi => HZ.out.row hi)
    have G16 := Lib.hid (G15.out.next b16)
    have W16 := Lib.hid (W15.out.next b16)
    have B16 := Lib.hid (Below.next B15.out (Nat.le_refl _) b16)
    clear hc16 b16 G15 W15 B15
    have HIm2 := Lib.hid (specs_listR HD.out (routeTo_any (some ⟨w15.heap.size, 0, none⟩) R.length R p q w16 Y16.out))
    go_wp2_with fail
    refine HIm2.out.mono ?_
    rintro e w18 ⟨h0, ch0, rfl, o18, b18⟩
    have H18 := Lib.hid o18.ints
    have G18 := Lib.hid (G16.out.next b18)
    have W18 := Lib.hid (W16.out.next b18)
    have B18 := Lib.hid (Below.next B16.out (Nat.le_refl _) b18)
    clear o18 b18 G16 W16 B16 HIm2
    go_wp2_with fail
    refine (eqIntS_any _ _ _ _ w18.heap.size w4.heap.size S S w18 H18.out W18.out.i hSl).mono ?_
    rintro e w19 ⟨rfl, n19, hw19⟩
    have G19 := Lib.hid (show Own .i64 3 w19 w5.heap.size w7.heap.size g0 (marks 1 S.length) by rw [hw19]; exact G18.out.drewN n19)
    have B19 := Lib.hid (show Below w.heap.size w w19 by rw [hw19]; exact below_drewN B18.out n19)
    clear hw19
    go_wp2_with fail
    refine (heldIntS_any g0 w7.heap.size _ S.length 1 w19 G19.out.ints hSl (by omega)).mono ?_
    rintro e w20 ⟨rfl, rfl⟩
    go_wp2
    go_ret
    exact ⟨rfl, B19.out⟩
end Go.Proofs.Ytnmhiagnmfpipaa
