/-
  The laws of the exactness of GoBack and SelectRepeat, walked: they return true for all arguments, and write into nothing that was there. Condition: a list that can be read.
-/
import Derived.Test.YtenihedpbklmlaaRpEx1
namespace Go.Proofs.Ytenihedpbklmlaa
open Go.RowKit

set_option maxRecDepth 10000 in
theorem pair_own {L : List Int} {v : Value} {w w' : World} {e : Ending} (h : PairP L v w e w') : ∃ a c, e = .returned (.tuple #[.slice a L.length c, v]) ∧ Own .i64 3 w' w.heap.size w'.heap.size a L ∧ Below w.heap.size w w' := by
  obtain ⟨a, c, h1, _, h3, h4⟩ := h
  exact ⟨a, c, h1, own_of_list h3, h4⟩
theorem bls_len {w w' : World} {B : Nat} {a : Option Addr} {ls : List Bool} (h : Bls w w.heap.size a ls) (hb : Below B w w') (hB : w.heap.size ≤ B) : Bls w' w'.heap.size a ls := h.next (hb.mono hB)

set_option maxRecDepth 100000 in
set_option maxHeartbeats 8000000 in
theorem walkExactGoBack (n v : Int) (a : Option Addr) (c : Nat) (ls : List Bool) (w : World) (hx : Bls w w.heap.size a ls) (_hc : ls.length ≤ c) (_hm : c ≤ maxLen) :
    Calls Try.prog 11 #[.int .i64 n, .int .i64 v, .slice a ls.length c] w fun e w' => e = .returned (.bool true) ∧ Below w.heap.size w w' := by
  have HX := Lib.hid hx
  clear hx _hc _hm
  by_cases hl : ls.length ≤ 1048576
  · obtain ⟨o, ho⟩ : ∃ o, gbO n v (bt ls) = o := ⟨_, rfl⟩
    obtain ⟨S, hS⟩ : ∃ S, S = optL o := ⟨_, rfl⟩
    obtain ⟨b, hb⟩ : ∃ b, b = o.isSome := ⟨_, rfl⟩
    have hSl : S.length ≤ 1048576 := by rw [hS, ← ho]; have := gbO_len (n := n) (v := v) (lost := bt ls); omega
    have HS := Lib.hid (And.intro ho (And.intro hS hb))
    have z3 : decide (S = S) = true := by simp
    have z4 : (b != b) = false := by simp
    clear ho hS hb
    go_enter Try.func11, Try.ntmps11
    go_wp2_with fail
    refine (toBoolS_any a c ls w HX.out hl).mono ?_
    rintro e w1 ⟨rfl, p1, b1⟩
    have P1 := Lib.hid p1
    have B1 := Lib.hid b1
    clear p1 b1
    go_wp2_with fail
    refine (specGoBack_any n v (some ⟨w.heap.size, 0, none⟩) ls.length ls w1 P1.out.bls).mono ?_
    unfold OptP
    rw [HS.out.1, ← HS.out.2.1, ← HS.out.2.2]
    intro e w3 h3
    obtain ⟨v0, cv0, rfl, o3, b3⟩ := pair_own h3
    have W3 := Lib.hid o3.ints
    have B3 := Lib.hid (Below.next B1.out (Nat.le_refl _) b3)
    clear P1 B1 h3 o3 b3
    go_wp2_with fail
    refine (toBoolS_any a c ls w3 (HX.out.next B3.out) hl).mono ?_
    rintro e w4 ⟨rfl, p4, b4⟩
    have X4 := Lib.hid p4
    have W4 := Lib.hid (W3.out.below b4)
    have B4 := Lib.hid (Below.next B3.out (Nat.le_refl _) b4)
    have s34 : w3.heap.size < w4.heap.size := p4.lt
    clear p4 b4
    go_wp2_with fail
    refine (goBack_any n v (some ⟨w3.heap.size, 0, none⟩) ls.length ls w4 X4.out.bls).mono ?_
    unfold OptP
    rw [HS.out.1, ← HS.out.2.1, ← HS.out.2.2]
    intro e w6 h6
    obtain ⟨g0, cg0, rfl, o6, b6⟩ := pair_own h6
    have G6 := Lib.hid o6
    have X6 := Lib.hid (X4.out.next b6)
    have W6 := Lib.hid (W4.out.below (b6.mono (by omega)))
    have B6 := Lib.hid (Below.next B4.out (Nat.le_refl _) b6)
    have s56 : w4.heap.size ≤ w6.heap.size := b6.size
    clear h6 o6 b6
    go_wp2_with fail
    refine (eqIntS_any _ _ _ _ w6.heap.size w3.heap.size S S w6 G6.out.ints W6.out hSl).mono ?_
    rintro e w7 ⟨rfl, n7, rfl⟩
    go_wp2_with fail
    refine (toBoolS_any a c ls _ (HX.out.next (below_drewN B6.out n7)) hl).mono ?_
    rintro e w8 ⟨rfl, p8, b8⟩
    have P8 := Lib.hid p8
    have G8 := Lib.hid (Own.next (w := w6.drewN n7) G6.out b8)
    have X8 := Lib.hid (RowB.next (W := w6.drewN n7) X6.out b8)
    have W8 := Lib.hid (Ints.below (w := w6.drewN n7) W6.out (b8.mono (by show w3.heap.size ≤ w6.heap.size; omega)))
    have B8 := Lib.hid (Below.next (below_drewN B6.out n7) (Nat.le_refl _) b8)
    have s68 : w6.heap.size ≤ w8.heap.size := b8.size
    clear p8 b8
    go_wp2_with fail
    refine (eqBoolS_same _ _ _ _ w8.heap.size w8.heap.size ls w8 X8.out.bls P8.out.bls hl).mono ?_
    rintro e w11 ⟨rfl, n11, rfl⟩
    clear P8 X6 X4 G6 W3 W4 W6
    go_wp2_with fail
    refine (markBoolS_row w3.heap.size _ ls.length 1 _ (w8.drewN n11) X8.out hl (by omega)).mono ?_
    rintro e w13 ⟨rfl, k13⟩
    have G13 := Lib.hid (Own.keep (w := w8.drewN n11) G8.out k13 (.inr (by omega)))
    have W13 := Lib.hid (Ints.out (w := w8.drewN n11) W8.out k13 (Nat.le_refl _) (by show w3.heap.size ≤ w8.heap.size; omega))
    have B13 := Lib.hid ((below_drewN B8.out n11).trans ((k13.below (by show w3.heap.size ≤ w8.heap.size; omega)).mono B3.out.size))
    have s13 : w8.heap.size ≤ w13.heap.size := k13.size
    clear k13 X8 G8 W8
    have hk2 : ¬ (((1 + ls.length : Nat) : Int) < 0) := by omega
    go_wp2_with fail
    refine (eqIntS_any _ _ _ _ w6.heap.size w3.heap.size S S w13 G13.out.ints W13.out hSl).mono ?_
    rintro e w14 ⟨rfl, n14, rfl⟩
    go_wp2_with fail
    refine (markIntS_own g0 _ 1 w4.heap.size w6.heap.size S (w13.drewN n14) G13.out hSl (by omega)).mono ?_
    rintro e w15 ⟨rfl, g15, k15⟩
    have G15 := Lib.hid g15
    have W15 := Lib.hid (Ints.out (w := w13.drewN n14) W13.out k15 (by omega) (by show w3.heap.size ≤ w13.heap.size; omega))
    have B15 := Lib.hid ((below_drewN B13.out n14).trans ((k15.below (by show w4.heap.size ≤ w13.heap.size; omega)).mono B4.out.size))
    have s15 : w13.heap.size ≤ w15.heap.size := k15.size
    clear k15 g15 G13 W13
    go_wp2_with fail
    refine (heldIntS_any g0 w6.heap.size _ S.length 1 w15 G15.out.ints hSl (by omega)).mono ?_
    rintro e w16 ⟨rfl, rfl⟩
    go_wp2_with fail
    refine (toBoolS_any a c ls w15 (HX.out.next B15.out) hl).mono ?_
    rintro e w18 ⟨rfl, p18, b18⟩
    have P18 := Lib.hid p18
    have G18 := Lib.hid (G15.out.next b18)
    have W18 := Lib.hid (W15.out.below (b18.mono (by omega)))
    have B18 := Lib.hid (Below.next B15.out (Nat.le_refl _) b18)
    have s18 : w15.heap.size ≤ w18.heap.size := b18.size
    clear p18 b18 G15 W15
    go_wp2_with fail
    refine (goBack_any n v (some ⟨w15.heap.size, 0, none⟩) ls.length ls w18 P18.out.bls).mono ?_
    unfold OptP
    rw [HS.out.1, ← HS.out.2.1, ← HS.out.2.2]
    intro e w19 h19
    obtain ⟨h0, ch0, rfl, o19, b19⟩ := pair_own h19
    have H19 := Lib.hid o19.ints
    have G19 := Lib.hid (G18.out.next b19)
    have W19 := Lib.hid (W18.out.below (b19.mono (by omega)))
    have B19 := Lib.hid (Below.next B18.out (Nat.le_refl _) b19)
    clear h19 o19 b19 G18 W18 P18
    go_wp2_with fail
    refine (eqIntS_any _ _ _ _ w19.heap.size w3.heap.size S S w19 H19.out W19.out hSl).mono ?_
    rintro e w20 ⟨rfl, n20, rfl⟩
    go_wp2_with fail
    refine (heldIntS_any g0 w6.heap.size _ S.length 1 (w19.drewN n20) G19.out.ints hSl (by omega)).mono ?_
    rintro e w21 ⟨rfl, rfl⟩
    go_wp2
    go_ret
    exact ⟨rfl, below_drewN B19.out n20⟩
  · go_enter Try.func11, Try.ntmps11
    have hl' : (1048576 : Int) < (ls.length : Int) := by omega
    go_wp2
    go_ret
    exact ⟨rfl, Below.refl _ _⟩

set_option maxRecDepth 100000 in
set_option maxHeartbeats 8000000 in
theorem walkExactSelectRepeat (n v : Int) (a : Option Addr) (c : Nat) (ls : List Bool) (w : World) (hx : Bls w w.heap.size a ls) (_hc : ls.length ≤ c) (_hm : c ≤ maxLen) :
    Calls Try.prog 12 #[.int .i64 n, .int .i64 v, .slice a ls.length c] w fun e w' => e = .returned (.bool true) ∧ Below w.heap.size w w' := by
  have HX := Lib.hid hx
  clear hx _hc _hm
  by_cases hl : ls.length ≤ 1048576
  · obtain ⟨o, ho⟩ : ∃ o, srO n v (bt ls) = o := ⟨_, rfl⟩
    obtain ⟨S, hS⟩ : ∃ S, S = optL o := ⟨_, rfl⟩
    obtain ⟨b, hb⟩ : ∃ b, b = o.isSome := ⟨_, rfl⟩
    have hSl : S.length ≤ 1048576 := by rw [hS, ← ho]; have := srO_len (n := n) (v := v) (lost := bt ls); omega
    have HS := Lib.hid (And.intro ho (And.intro hS hb))
    have z3 : decide (S = S) = true := by simp
    have z4 : (b != b) = false := by simp
    clear ho hS hb
    go_enter Try.func12, Try.ntmps12
    go_wp2_with fail
    refine (toBoolS_any a c ls w HX.out hl).mono ?_
    rintro e w1 ⟨rfl, p1, b1⟩
    have P1 := Lib.hid p1
    have B1 := Lib.hid b1
    clear p1 b1
    go_wp2_with fail
    refine (specSelectRepeat_any n v (some ⟨w.heap.size, 0, none⟩) ls.length ls w1 P1.out.bls).mono ?_
    unfold OptP
    rw [HS.out.1, ← HS.out.2.1, ← HS.out.2.2]
    intro e w3 h3
    obtain ⟨v0, cv0, rfl, o3, b3⟩ := pair_own h3
    have W3 := Lib.hid o3.ints
    have B3 := Lib.hid (Below.next B1.out (Nat.le_refl _) b3)
    clear P1 B1 h3 o3 b3
    go_wp2_with fail
    refine (toBoolS_any a c ls w3 (HX.out.next B3.out) hl).mono ?_
    rintro e w4 ⟨rfl, p4, b4⟩
    have X4 := Lib.hid p4
    have W4 := Lib.hid (W3.out.below b4)
    have B4 := Lib.hid (Below.next B3.out (Nat.le_refl _) b4)
    have s34 : w3.heap.size < w4.heap.size := p4.lt
    clear p4 b4
    go_wp2_with fail
    refine (selectRepeat_any n v (some ⟨w3.heap.size, 0, none⟩) ls.length ls w4 X4.out.bls).mono ?_
    unfold OptP
    rw [HS.out.1, ← HS.out.2.1, ← HS.out.2.2]
    intro e w6 h6
    obtain ⟨g0, cg0, rfl, o6, b6⟩ := pair_own h6
    have G6 := Lib.hid o6
    have X6 := Lib.hid (X4.out.next b6)
    have W6 := Lib.hid (W4.out.below (b6.mono (by omega)))
    have B6 := Lib.hid (Below.next B4.out (Nat.le_refl _) b6)
    have s56 : w4.heap.size ≤ w6.heap.size := b6.size
    clear h6 o6 b6
    go_wp2_with fail
    refine (eqIntS_any _ _ _ _ w6.heap.size w3.heap.size S S w6 G6.out.ints W6.out hSl).mono ?_
    rintro e w7 ⟨rfl, n7, rfl⟩
    go_wp2_with fail
    refine (toBoolS_any a c ls _ (HX.out.next (below_drewN B6.out n7)) hl).mono ?_
    rintro e w8 ⟨rfl, p8, b8⟩
    have P8 := Lib.hid p8
    have G8 := Lib.hid (Own.next (w := w6.drewN n7) G6.out b8)
    have X8 := Lib.hid (RowB.next (W := w6.drewN n7) X6.out b8)
    have W8 := Lib.hid (Ints.below (w := w6.drewN n7) W6.out (b8.mono (by show w3.heap.size ≤ w6.heap.size; omega)))
    have B8 := Lib.hid (Below.next (below_drewN B6.out n7) (Nat.le_refl _) b8)
    have s68 : w6.heap.size ≤ w8.heap.size := b8.size
    clear p8 b8
    go_wp2_with fail
    refine (eqBoolS_same _ _ _ _ w8.heap.size w8.heap.size ls w8 X8.out.bls P8.out.bls hl).mono ?_
    rintro e w11 ⟨rfl, n11, rfl⟩
    clear P8 X6 X4 G6 W3 W4 W6
    go_wp2_with fail
    refine (markBoolS_row w3.heap.size _ ls.length 1 _ (w8.drewN n11) X8.out hl (by omega)).mono ?_
    rintro e w13 ⟨rfl, k13⟩
    have G13 := Lib.hid (Own.keep (w := w8.drewN n11) G8.out k13 (.inr (by omega)))
    have W13 := Lib.hid (Ints.out (w := w8.drewN n11) W8.out k13 (Nat.le_refl _) (by show w3.heap.size ≤ w8.heap.size; omega))
    have B13 := Lib.hid ((below_drewN B8.out n11).trans ((k13.below (by show w3.heap.size ≤ w8.heap.size; omega)).mono B3.out.size))
    have s13 : w8.heap.size ≤ w13.heap.size := k13.size
    clear k13 X8 G8 W8
    have hk2 : ¬ (((1 + ls.length : Nat) : Int) < 0) := by omega
    go_wp2_with fail
    refine (eqIntS_any _ _ _ _ w6.heap.size w3.heap.size S S w13 G13.out.ints W13.out hSl).mono ?_
    rintro e w14 ⟨rfl, n14, rfl⟩
    go_wp2_with fail
    refine (markIntS_own g0 _ 1 w4.heap.size w6.heap.size S (w13.drewN n14) G13.out hSl (by omega)).mono ?_
    rintro e w15 ⟨rfl, g15, k15⟩
    have G15 := Lib.hid g15
    have W15 := Lib.hid (Ints.out (w := w13.drewN n14) W13.out k15 (by omega) (by show w3.heap.size ≤ w13.heap.size; omega))
    have B15 := Lib.hid ((below_drewN B13.out n14).trans ((k15.below (by show w4.heap.size ≤ w13.heap.size; omega)).mono B4.out.size))
    have s15 : w13.heap.size ≤ w15.heap.size := k15.size
    clear k15 g15 G13 W13
    go_wp2_with fail
    refine (heldIntS_any g0 w6.heap.size _ S.length 1 w15 G15.out.ints hSl (by omega)).mono ?_
    rintro e w16 ⟨rfl, rfl⟩
    go_wp2_with fail
    refine (toBoolS_any a c ls w15 (HX.out.next B15.out) hl).mono ?_
    rintro e w18 ⟨rfl, p18, b18⟩
    have P18 := Lib.hid p18
    have G18 := Lib.hid (G15.out.next b18)
    have W18 := Lib.hid (W15.out.below (b18.mono (by omega)))
    have B18 := Lib.hid (Below.next B15.out (Nat.le_refl _) b18)
    have s18 : w15.heap.size ≤ w18.heap.size := b18.size
    clear p18 b18 G15 W15
    go_wp2_with fail
    refine (selectRepeat_any n v (some ⟨w15.heap.size, 0, none⟩) ls.length ls w18 P18.out.bls).mono ?_
    unfold OptP
    rw [HS.out.1, ← HS.out.2.1, ← HS.out.2.2]
    intro e w19 h19
    obtain ⟨h0, ch0, rfl, o19, b19⟩ := pair_own h19
    have H19 := Lib.hid o19.ints
    have G19 := Lib.hid (G18.out.next b19)
    have W19 := Lib.hid (W18.out.below (b19.mono (by omega)))
    have B19 := Lib.hid (Below.next B18.out (Nat.le_refl _) b19)
    clear h19 o19 b19 G18 W18 P18
    go_wp2_with fail
    refine (eqIntS_any _ _ _ _ w19.heap.size w3.heap.size S S w19 H19.out W19.out hSl).mono ?_
    rintro e w20 ⟨rfl, n20, rfl⟩
    go_wp2_with fail
    refine (heldIntS_any g0 w6.heap.size _ S.length 1 (w19.drewN n20) G19.out.ints hSl (by omega)).mono ?_
    rintro e w21 ⟨rfl, rfl⟩
    go_wp2
    go_ret
    exact ⟨rfl, below_drewN B19.out n20⟩
  · go_enter Try.func12, Try.ntmps12
    have hl' : (1048576 : Int) < (ls.length : Int) := by omega
    go_wp2
    go_ret
    exact ⟨rfl, Below.refl _ _⟩
end Go.Proofs.Ytenihedpbklmlaa
