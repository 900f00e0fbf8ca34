/-
  The law of AddBits, walked: it returns true for every code, and writes into nothing that was there.
-/
import Derived.Test.YtnedhpodfjlnmaaLaw2
import Derived.Test.YtnedhpodfjlnmaaExact2
import Derived.Deep.RegionWith
namespace Go.Proofs.Ytnedhpodfjlnmaa
open Go.RowKit

theorem sumOr_ok {xs ys : List Int} (h : pairOk xs ys = true) : sumOr xs ys = sumBits xs ys := by simp [sumOr, h]
theorem sumOr_no {xs ys : List Int} (h : pairOk xs ys = false) : sumOr xs ys = [] := by simp [sumOr, h]
theorem sumOr_back {xs ys : List Int} (h : pairOk xs ys = true) : sumOr (sumOr xs ys) ys = xs := by
  obtain ⟨h1, h2, h3⟩ := pairOk_parts h
  have h4 : pairOk (sumBits xs ys) ys = true := by simp [pairOk, sumBits_ok (bitsOk_length h1), h2, sumBits_length, h3]
  rw [sumOr_ok h, sumOr_ok h4, sum_back h]
theorem sumOr_self {xs : List Int} (h : bitsOk xs = true) : sumOr xs xs = zeros xs.length := by
  have h4 : pairOk xs xs = true := by simp [pairOk, h]
  rw [sumOr_ok h4, sum_self]

def SelfPost (n : Nat) (w : World) (e : Ending) (w' : World) : Prop :=
  ∃ v cv, e = .returned (.slice v n cv) ∧ Ints .i64 w' w'.heap.size v (zeros n) ∧ Below w.heap.size w w'
theorem selfAdd_any (a : Option Addr) (c : Nat) (xs : List Int) (w : World) (hx : Ints .i64 w w.heap.size a xs) (hb : bitsOk xs = true) :
    Calls Try.prog 29 #[.slice a xs.length c, .slice a xs.length c] w (SelfPost xs.length w) := by
  have h := addBits_any a a c c w.heap.size w.heap.size xs xs w hx hx (Nat.le_refl _) (Nat.le_refl _)
  rw [sumOr_self hb] at h
  refine h.mono fun e w' ⟨v, cv, h1, h2, h3⟩ => ⟨v, cv, ?_, (own_of_list h2).ints, h3⟩
  rw [h1, zeros_length]
theorem sameZeros_any (n : Nat) (v z : Option Addr) (c c' B B' : Nat) (w : World) (hv : Ints .i64 w B v (zeros n)) (hz : Ints .i64 w B' z (zeros n)) (hn : n ≤ 1048576) :
    Calls Try.prog 21 #[.slice v n c, .slice z n c'] w fun e w' => e = .returned (.bool true) ∧ ∃ m, w' = w.drewN m := by
  have h := sameInts_any v z c c' B B' (zeros n) (zeros n) w hv hz (by rw [zeros_length]; exact hn)
  rw [zeros_length, decide_eq_true (rfl : zeros n = zeros n)] at h
  exact h

set_option maxHeartbeats 2000000 in
theorem walkAddBits (a : Option Addr) (c : Nat) (ds : List Int) (w : World) (hx : Ints .u8 w w.heap.size a ds) (hw : ∀ n ∈ ds, (Lit.int .u8 n).wf = true) (hc : ds.length ≤ c) (hcm : c ≤ maxLen) :
    Calls Try.prog 7 #[.slice a ds.length c] w fun e w' => e = .returned (.bool true) ∧ Below w.heap.size w w' := by
  have hb := isByte_of_wf hw
  clear hw
  by_cases hl : ds.length ≤ 1048576
  · go_enter Try.func7, Try.ntmps7
    go_wp2_with fail
    refine (drawAdd_any a c ds w hx hb hc hcm).mono ?_
    rintro e w1 ⟨xs, ys, a1, a2, c1, c2, rfl, l1, l2, s1, s2, i1, i2, b1⟩
    have I1 := Lib.hid i1
    have I2 := Lib.hid i2
    have B1 := Lib.hid b1
    clear hx hb hc hcm i1 i2 b1 s1 s2
    have L1 := Lib.hid (show xs.length ≤ maxLen by unfold maxLen; omega)
    have L2 := Lib.hid (show ys.length ≤ maxLen by unfold maxLen; omega)
    obtain ⟨S, hS⟩ : ∃ S, S = sumOr xs ys := ⟨_, rfl⟩
    have hSl : S.length ≤ 1048576 := by rw [hS]; exact sumOr_length xs ys (by omega)
    have HS := Lib.hid hS
    have HS' := Lib.hid (hS.trans (sumOr_comm ys xs))
    clear hS
    have z3 : decide (S = S) = true := by simp
    go_wp2_with fail
    refine (addBits_any a1 a2 c1 c2 w1.heap.size w1.heap.size xs ys w1 I1.out I2.out (Nat.le_refl _) (Nat.le_refl _)).mono ?_
    rw [← HS.out]
    rintro e w2 ⟨g, cg, rfl, o2, b2⟩
    have G2 := Lib.hid (own_of_list o2).ints
    have J1 := Lib.hid (I1.out.next b2)
    have J2 := Lib.hid (I2.out.next b2)
    have B2 := Lib.hid (Below.next B1.out (Nat.le_refl _) b2)
    clear o2 b2
    go_wp2_with fail
    refine (specAddBits_any a1 a2 c1 c2 w2.heap.size w2.heap.size xs ys w2 J1.out J2.out (Nat.le_refl _) (Nat.le_refl _) L1.out L2.out).mono ?_
    rw [← HS.out]
    rintro e w3 ⟨v3, cv3, rfl, o3, b3⟩
    have V3 := Lib.hid (own_of_list o3).ints
    have G3 := Lib.hid (G2.out.next b3)
    have K1 := Lib.hid (J1.out.next b3)
    have K2 := Lib.hid (J2.out.next b3)
    have B3 := Lib.hid (Below.next B2.out (Nat.le_refl _) b3)
    clear o3 b3
    go_wp2_with fail
    refine (sameInts_any g v3 cg cv3 w3.heap.size w3.heap.size S S w3 G3.out V3.out hSl).mono ?_
    rintro e w4 ⟨rfl, n4, rfl⟩
    go_wp2_with fail
    refine (addBits_any a2 a1 c2 c1 w3.heap.size w3.heap.size ys xs (w3.drewN n4) K2.out K1.out (Nat.le_refl _) (Nat.le_refl _)).mono ?_
    rw [← HS'.out]
    rintro e w5 ⟨v5, cv5, rfl, o5, b5⟩
    have V5 := Lib.hid (own_of_list o5).ints
    have G5 := Lib.hid (Ints.next (w := w3.drewN n4) G3.out b5)
    have M1 := Lib.hid (Ints.next (w := w3.drewN n4) K1.out b5)
    have M2 := Lib.hid (Ints.next (w := w3.drewN n4) K2.out b5)
    have B5 := Lib.hid (Below.next (below_drewN B3.out n4) (Nat.le_refl _) b5)
    clear o5 b5 G2 G3 V3 J1 J2 K1 K2 I1 I2
    go_wp2_with fail
    refine (sameInts_any g v5 cg cv5 w5.heap.size w5.heap.size S S w5 G5.out V5.out hSl).mono ?_
    rintro e w6 ⟨rfl, n6, rfl⟩
    have B6 := Lib.hid (below_drewN B5.out n6)
    have G6 : Hid (Ints .i64 (w5.drewN n6) (w5.drewN n6).heap.size g S) := G5.out
    have N1 : Hid (Ints .i64 (w5.drewN n6) (w5.drewN n6).heap.size a1 xs) := M1.out
    have N2 : Hid (Ints .i64 (w5.drewN n6) (w5.drewN n6).heap.size a2 ys) := M2.out
    clear G5 M1 M2 V5 B5
    generalize w5.drewN n6 = w7 at *
    have h1 := isBits_any a1 c1 w7.heap.size xs w7 N1.out L1.out
    have h2 := isBits_any a2 c2 w7.heap.size ys w7 N2.out L2.out
    cases e1 : bitsOk xs
    · have hz : S.length = 0 := by rw [HS.out, sumOr_no (by simp [pairOk, e1])]; rfl
      rw [e1] at h1
      have H1 := Lib.hid h1
      clear h1 h2
      go_wp2_with fail
      refine H1.out.mono ?_
      rintro e w8 ⟨rfl, rfl⟩
      clear H1
      go_wp2_with fail
      refine (alive_any w7).mono ?_
      rintro e w9 ⟨rfl, b9⟩
      have B9 := Lib.hid (Below.next B6.out (Nat.le_refl _) b9)
      clear b9
      go_wp2
      go_ret
      exact ⟨rfl, B9.out⟩
    · cases e2 : bitsOk ys
      · have hz : S.length = 0 := by rw [HS.out, sumOr_no (by simp [pairOk, e1, e2])]; rfl
        rw [e1] at h1
        rw [e2] at h2
        have H1 := Lib.hid h1
        have H2 := Lib.hid h2
        clear h1 h2
        go_wp2_with fail
        refine H1.out.mono ?_
        rintro e w8 ⟨rfl, rfl⟩
        go_wp2_with fail
        refine H2.out.mono ?_
        rintro e w8 ⟨rfl, rfl⟩
        clear H1 H2
        go_wp2_with fail
        refine (alive_any w7).mono ?_
        rintro e w9 ⟨rfl, b9⟩
        have B9 := Lib.hid (Below.next B6.out (Nat.le_refl _) b9)
        clear b9
        go_wp2
        go_ret
        exact ⟨rfl, B9.out⟩
      · rw [e1] at h1
        rw [e2] at h2
        have H1 := Lib.hid h1
        have H2 := Lib.hid h2
        clear h1 h2
        by_cases hlen : xs.length = ys.length
        · have hp : pairOk xs ys = true := by simp [pairOk, e1, e2, hlen]
          have HBk : Hid (sumOr S ys = xs) := by rw [HS.out]; exact sumOr_back hp
          have HSe := Lib.hid (sumOr_self e1)
          have hne : ((xs.length : Int) != (ys.length : Int)) = false := by simp [hlen]
          have HE1 := Lib.hid e1
          clear hlen hp e1 e2
          have hmk := run_make_row' (P := Try.prog) 23 3 (.int .i64 0) 8 Try.underlying23 Try.infoInt rfl .i64 .i64 xs.length (by omega) (by omega)
          have zz : decide (zeros xs.length = zeros xs.length) = true := by simp
          have zx : decide (xs = xs) = true := by simp
          go_wp2_with fail
          refine H1.out.mono ?_
          rintro e w8 ⟨rfl, rfl⟩
          go_wp2_with fail
          refine H2.out.mono ?_
          rintro e w8 ⟨rfl, rfl⟩
          clear H1 H2
          have hA := addBits_any g a2 cg c2 w7.heap.size w7.heap.size S ys w7.drew G6.out N2.out (Nat.le_refl _) (Nat.le_refl _)
          rw [HBk.out] at hA
          have HA := Lib.hid hA
          clear hA
          go_wp2_with fail
          go_region_with (first
            | (go_at_call 29; ((with_reducible refine HA.out.mono ?_); rintro e w8 ⟨v8, cv8, rfl, o8, b8⟩; have V8 := Lib.hid (own_of_list o8).ints; have N8 := Lib.hid (Ints.next (w := w7.drew) N1.out b8); have B8 := Lib.hid (Below.next B6.out.drew (Nat.le_refl _) b8); clear o8 b8))
            | (go_at_call 21; ((with_reducible refine (sameInts_any v8 a1 cv8 c1 w8.heap.size w8.heap.size xs xs w8 V8.out N8.out (by omega)).mono ?_); rintro e w9 ⟨rfl, n9, rfl⟩; have Q8 : Hid (Ints .i64 (w8.drewN n9) (w8.drewN n9).heap.size a1 xs) := N8.out; have C8 := Lib.hid (below_drewN B8.out n9)))
            | (go_at_call 29; ((with_reducible refine (selfAdd_any a1 c1 xs (w8.drewN n9) Q8.out HE1.out).mono ?_); rintro e w10 ⟨v10, cv10, rfl, o10, b10⟩; have V10 := Lib.hid o10; have B10 := Lib.hid (Below.next C8.out (Nat.le_refl _) b10); clear o10 b10))
            | (go_at_call 29; ((with_reducible refine (selfAdd_any a1 c1 xs ((w8.drewN n9).alloc (.cells (madeCells #[.int .i64 0] xs.length) 3)) (Q8.out.next ((Below.refl _ _).alloc (Nat.le_refl _) _)) HE1.out).mono ?_); rintro e w10 ⟨v10, cv10, rfl, o10, b10⟩; have V10 := Lib.hid o10; have Z10 : Hid (Ints .i64 w10 w10.heap.size (some ⟨w8.heap.size, 0, none⟩) (zeros xs.length)) := Ints.next ((zeros_ints (w8.drewN n9) xs.length).more (by simp)) b10; have B10 := Lib.hid (Below.next (C8.out.alloc C8.out.size _) (Nat.le_refl _) b10); clear o10 b10))
            | (go_at_call 21; ((with_reducible refine (sameZeros_any xs.length v10 (some ⟨w10.heap.size, 0, none⟩) cv10 xs.length w10.heap.size (w10.heap.size + 1) (w10.alloc (.cells (madeCells #[.int .i64 0] xs.length) 3)) (V10.out.below ((Below.refl _ _).alloc (Nat.le_refl _) _)) (zeros_ints w10 xs.length) (by omega)).mono ?_); rintro e w11 ⟨rfl, n11, rfl⟩; have B11 := Lib.hid (below_drewN (B10.out.alloc B10.out.size (.cells (madeCells #[.int .i64 0] xs.length) 3)) n11)))
            | (go_at_call 21; ((with_reducible refine (sameZeros_any xs.length v10 (some ⟨w8.heap.size, 0, none⟩) cv10 xs.length w10.heap.size w10.heap.size w10 V10.out Z10.out (by omega)).mono ?_); rintro e w11 ⟨rfl, n11, rfl⟩; have B11 := Lib.hid (below_drewN B10.out n11))))
          all_goals
            go_wp2
            go_ret
            exact ⟨rfl, B11.out⟩
        · have hz : S.length = 0 := by rw [HS.out, sumOr_no (by simp [pairOk, hlen])]; rfl
          have hne : ((xs.length : Int) != (ys.length : Int)) = true := by simp; omega
          clear hlen
          go_wp2_with fail
          refine H1.out.mono ?_
          rintro e w8 ⟨rfl, rfl⟩
          go_wp2_with fail
          refine H2.out.mono ?_
          rintro e w8 ⟨rfl, rfl⟩
          clear H1 H2
          go_wp2_with fail
          refine (alive_any w7).mono ?_
          rintro e w9 ⟨rfl, b9⟩
          have B9 := Lib.hid (Below.next B6.out (Nat.le_refl _) b9)
          clear b9
          go_wp2
          go_ret
          exact ⟨rfl, B9.out⟩
  · go_enter Try.func7, Try.ntmps7
    go_wp2
    go_ret
    exact ⟨rfl, Below.refl _ _⟩
end Go.Proofs.Ytnedhpodfjlnmaa
