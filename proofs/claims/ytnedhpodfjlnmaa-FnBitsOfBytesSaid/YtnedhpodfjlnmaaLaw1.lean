/-
  The laws of HammingDistance and of the triangle, walked: they return true for every code, and write into nothing that was there.
-/
import Derived.Test.YtnedhpodfjlnmaaLawMath
import Derived.Test.YtnedhpodfjlnmaaDraw4
namespace Go.Proofs.Ytnedhpodfjlnmaa
open Go.RowKit

theorem zeros_ints (w : World) (n : Nat) : Ints .i64 (w.alloc (.cells (madeCells #[.int .i64 0] n) 3)) (w.heap.size + 1) (some ⟨w.heap.size, 0, none⟩) (zeros n) :=
  ints_of_row ((World.rowIs_made w (.int .i64 0) n 3).congr fun i _ => by rw [zeros_el]) (zeros_length n).symm (by omega)

set_option maxHeartbeats 2000000 in
theorem walkHamming (a : Option Addr) (c : Nat) (ds : List Int) (w : World) (hx : Ints .u8 w w.heap.size a ds) (hw : ∀ n ∈ ds, (Lit.int .u8 n).wf = true) (hc : ds.length ≤ c) (hcm : c ≤ maxLen) :
    Calls Try.prog 6 #[.slice a ds.length c] w fun e w' => e = .returned (.bool true) ∧ Below w.heap.size w w' := by
  have hb := isByte_of_wf hw
  clear hw
  by_cases hl : ds.length ≤ 1048576
  · go_enter Try.func6, Try.ntmps6
    go_wp2_with fail
    refine (drawHamming_any a c ds w hx hb hc hcm).mono ?_
    rintro e w1 ⟨xs, ys, a1, a2, c1, c2, rfl, l1, l2, s1, s2, i1, i2, b1⟩
    have I1 := Lib.hid i1
    have I2 := Lib.hid i2
    have B1 := Lib.hid b1
    clear hx hb hc hcm i1 i2 b1 s1 s2
    have L1 := Lib.hid (show xs.length ≤ maxLen by unfold maxLen; omega)
    have L2 := Lib.hid (show ys.length ≤ maxLen by unfold maxLen; omega)
    go_wp2_with fail
    refine (hamming_any a1 a2 c1 c2 w1.heap.size w1.heap.size xs ys w1 I1.out I2.out (Nat.le_refl _) (Nat.le_refl _)).mono ?_
    rintro e w2 ⟨rfl, b2⟩
    have J1 := Lib.hid (I1.out.next b2)
    have J2 := Lib.hid (I2.out.next b2)
    have B2 := Lib.hid (Below.next B1.out (Nat.le_refl _) b2)
    clear b2
    go_wp2_with fail
    refine (specHamming_any a1 a2 c1 c2 w2.heap.size w2.heap.size xs ys w2 J1.out J2.out L1.out L2.out).mono ?_
    rintro e w3 ⟨rfl, n3, rfl⟩
    have hself : (distOr xs ys != distOr xs ys) = false := by simp
    go_wp2_with fail
    refine (hamming_any a2 a1 c2 c1 w2.heap.size w2.heap.size ys xs (w2.drewN n3) J2.out J1.out (Nat.le_refl _) (Nat.le_refl _)).mono ?_
    rw [distOr_comm xs ys]
    rintro e w4 ⟨rfl, b4⟩
    have K1 := Lib.hid (Ints.next (w := w2.drewN n3) J1.out b4)
    have K2 := Lib.hid (Ints.next (w := w2.drewN n3) J2.out b4)
    have B4 := Lib.hid (Below.next (below_drewN B2.out n3) (Nat.le_refl _) b4)
    clear b4
    cases hp : pairOk xs ys
    · rw [distOr_no hp] at *
      clear hself
      go_wp2_with fail
      refine (alive_any w4).mono ?_
      rintro e w5 ⟨rfl, b5⟩
      have B5 := Lib.hid (Below.next B4.out (Nat.le_refl _) b5)
      clear b5
      go_wp2
      go_ret
      exact ⟨rfl, B5.out⟩
    · have hlen := (pairOk_parts hp).2.2
      have HLen := Lib.hid hlen
      have HP := Lib.hid hp
      have HZ := Lib.hid (dist_zero hp)
      have hle := dist_le xs ys
      have HS := Lib.hid (show sumOr xs ys = sumBits xs ys by simp [sumOr, hp])
      have HD := Lib.hid ((distOr_ok (pair_sum (xs := xs) (ys := ys) (by omega))).trans (congrArg Int.ofNat dist_sum))
      rw [distOr_ok hp] at *
      clear hself hlen hp
      go_wp2_with fail
      refine (addBits_any a1 a2 c1 c2 w4.heap.size w4.heap.size xs ys w4 K1.out K2.out (Nat.le_refl _) (Nat.le_refl _)).mono ?_
      rw [HS.out]
      rintro e w5 ⟨g, cg, rfl, o5, b5⟩
      have G5 := Lib.hid (own_of_list o5).ints
      have M1 := Lib.hid (K1.out.next b5)
      have M2 := Lib.hid (K2.out.next b5)
      have B5 := Lib.hid (Below.next B4.out (Nat.le_refl _) b5)
      clear o5 b5
      go_wp2_with fail
      refine (sameInts_any a1 a2 c1 c2 w5.heap.size w5.heap.size xs ys w5 M1.out M2.out (by omega)).mono ?_
      rintro e w6 ⟨rfl, n6, rfl⟩
      have hmk := run_make_row' (P := Try.prog) 23 3 (.int .i64 0) 8 Try.underlying23 Try.infoInt rfl .i64 .i64 xs.length (by omega) (by omega)
      have hbe : (((dist xs ys : Int) == 0) == decide (xs = ys)) = true := by
        have := HZ.out
        by_cases e : xs = ys
        · have h0 := this.2 e
          rw [h0]; simp [e]
        · have h0 : dist xs ys ≠ 0 := fun h => e (this.1 h)
          simp [e, h0]
      have G6 : Hid (Ints .i64 ((w5.drewN n6).alloc (.cells (madeCells #[.int .i64 0] xs.length) 3)) (w5.heap.size) g (sumBits xs ys)) := Ints.below (w := w5.drewN n6) G5.out ((Below.refl w5.heap.size (w5.drewN n6)).alloc (Nat.le_refl _) _)
      have Z6 := Lib.hid (zeros_ints (w5.drewN n6) xs.length)
      have hcon := hamming_any g (some ⟨w5.heap.size, 0, none⟩) cg xs.length w5.heap.size (w5.heap.size + 1) (sumBits xs ys) (zeros xs.length) ((w5.drewN n6).alloc (.cells (madeCells #[.int .i64 0] xs.length) 3)) G6.out Z6.out (by simp [World.drewN]) (by simp [World.drewN])
      rw [zeros_length, HD.out] at hcon
      have HC := Lib.hid hcon
      clear hcon
      go_wp2_with fail
      refine HC.out.mono ?_
      rintro e w7 ⟨rfl, b7⟩
      have B7 := Lib.hid (Below.next (below_drewN B5.out n6) (Nat.le_refl _) (after1 b7).2.2)
      clear b7 hmk HC
      have hdd : ((Int.ofNat (dist xs ys)) == (dist xs ys : Int)) = true := by simp
      go_wp2
      go_ret
      exact ⟨by first | rfl | simp, B7.out⟩
  · go_enter Try.func6, Try.ntmps6
    go_wp2
    go_ret
    exact ⟨rfl, Below.refl _ _⟩

/-- The state of the loop that turns a list round: q numbers are left. -/
def RevRel (xs : List Int) (w : World) (q n : Nat) (v : Option Addr) (cap : Nat) (wr : World) : Prop :=
  n + q = xs.length ∧ Grow .i64 3 wr w.heap.size v n cap (xs.reverse.take n) ∧ Below w.heap.size w wr
theorem rev_take {xs : List Int} {j n : Nat} (h : n + (j + 1) = xs.length) : xs.reverse.take (n + 1) = xs.reverse.take n ++ [el xs j] := by
  have hn : n < xs.reverse.length := by simp; omega
  rw [List.take_succ_eq_append_getElem hn, List.getElem_reverse]
  congr 2
  rw [el_lt (show j < xs.length by omega)]
  congr 1
  omega
set_option maxHeartbeats 2000000 in
theorem walkTriangle (a : Option Addr) (c : Nat) (ds : List Int) (w : World) (hx : Ints .u8 w w.heap.size a ds) (hw : ∀ n ∈ ds, (Lit.int .u8 n).wf = true) (hc : ds.length ≤ c) (hcm : c ≤ maxLen) :
    Calls Try.prog 8 #[.slice a ds.length c] w fun e w' => e = .returned (.bool true) ∧ Below w.heap.size w w' := by
  have hb := isByte_of_wf hw
  clear hw
  by_cases hl : ds.length ≤ 1048576
  · go_enter Try.func8, Try.ntmps8
    go_wp2_with fail
    refine (drawHamming_any a c ds w hx hb hc hcm).mono ?_
    rintro e w1 ⟨xs, ys, a1, a2, c1, c2, rfl, l1, l2, s1, s2, i1, i2, b1⟩
    have I1 := Lib.hid i1
    have I2 := Lib.hid i2
    have B1 := Lib.hid b1
    clear hx hb hc hcm i1 i2 b1 s1 s2
    have L1 := Lib.hid (show xs.length ≤ maxLen by unfold maxLen; omega)
    have L2 := Lib.hid (show ys.length ≤ maxLen by unfold maxLen; omega)
    go_wp2_with fail
    refine (hamming_any a1 a2 c1 c2 w1.heap.size w1.heap.size xs ys w1 I1.out I2.out (Nat.le_refl _) (Nat.le_refl _)).mono ?_
    rintro e w2 ⟨rfl, b2⟩
    have J1 := Lib.hid (I1.out.next b2)
    have J2 := Lib.hid (I2.out.next b2)
    have B2 := Lib.hid (Below.next B1.out (Nat.le_refl _) b2)
    clear b2
    go_wp2_with fail
    refine (specHamming_any a1 a2 c1 c2 w2.heap.size w2.heap.size xs ys w2 J1.out J2.out L1.out L2.out).mono ?_
    rintro e w3 ⟨rfl, n3, rfl⟩
    have hself : (distOr xs ys != distOr xs ys) = false := by simp
    have B3 := Lib.hid (below_drewN B2.out n3)
    have K1 : Hid (Ints .i64 (w2.drewN n3) (w2.drewN n3).heap.size a1 xs) := J1.out
    have K2 : Hid (Ints .i64 (w2.drewN n3) (w2.drewN n3).heap.size a2 ys) := J2.out
    clear J1 J2
    generalize w2.drewN n3 = w4 at *
    cases hp : pairOk xs ys
    · rw [distOr_no hp] at *
      clear hself
      go_wp2_with fail
      refine (alive_any w4).mono ?_
      rintro e w5 ⟨rfl, b5⟩
      have B5 := Lib.hid (Below.next B3.out (Nat.le_refl _) b5)
      clear b5
      go_wp2
      go_ret
      exact ⟨rfl, B5.out⟩
    · have hlen := (pairOk_parts hp).2.2
      have hp1 : pairOk xs xs.reverse = true := by simp [pairOk, (pairOk_parts hp).1, reverse_ok (pairOk_parts hp).1]
      have hp2 : pairOk xs.reverse ys = true := by simp [pairOk, (pairOk_parts hp).2.1, reverse_ok (pairOk_parts hp).1, hlen]
      have hd1 := dist_le xs xs.reverse
      have hd2 := dist_le xs.reverse ys
      have hlr : xs.reverse.length ≤ 21 := by simp; exact l1
      have HT := Lib.hid (dist_triangle (zs := xs.reverse) hlen (by simp))
      have HE1 := Lib.hid (distOr_ok hp1)
      have HE2 := Lib.hid (distOr_ok hp2)
      rw [distOr_ok hp] at *
      clear hself hlen hp hp1 hp2
      go_wp2
      go_loopw [6, 7] (fun s i wr => ∃ (q n : Nat) (v : Option Addr) (cap : Nat), q ≤ xs.length ∧ Idx q i ∧ s = .slice v n cap ∧ RevRel xs w4 q n v cap wr) (fun _ i _ => (intOf i + 1).toNat)
      case atStart => exact ⟨xs.length, 0, _, _, Nat.le_refl _, idx_pred _, rfl, by omega, Grow.lit0 _ _ _ _ (Nat.le_refl _), (Below.refl _ _).alloc (Nat.le_refl _) _⟩
      case round =>
        obtain ⟨q, n, v, cap, hq, hj, rfl, hn, hgr, hbel⟩ := hrel
        have HN := Lib.hid hn
        have HG := Lib.hid hgr
        have HBe := Lib.hid hbel
        have hsz : w4.heap.size ≤ wr.heap.size := hbel.size
        have hnn : n ≤ 21 := by omega
        clear hn hgr hbel
        rcases hj with ⟨rfl, rfl⟩ | ⟨j, rfl, rfl⟩
        · have HG2 : Hid (Ints .i64 wr wr.heap.size v xs.reverse) := by
            have := HG.out.ints
            rw [List.take_of_length_le (by have := HN.out; simp; omega)] at this
            exact this
          have hnr : n = xs.reverse.length := by have := HN.out; simp; omega
          subst hnr
          have B6 := Lib.hid (Below.next B3.out (Nat.le_refl _) HBe.out)
          have M1 := Lib.hid (K1.out.next HBe.out)
          have M2 := Lib.hid (K2.out.next HBe.out)
          have hcon := hamming_any a1 v c1 cap wr.heap.size wr.heap.size xs xs.reverse wr M1.out HG2.out (Nat.le_refl _) (Nat.le_refl _)
          rw [HE1.out] at hcon
          have HC := Lib.hid hcon
          clear hcon HG HN
          generalize hrv : xs.reverse = rs at *
          have HRv := Lib.hid hrv
          clear hrv
          go_wp2_with fail
          refine HC.out.mono ?_
          rintro e w5 ⟨rfl, b5⟩
          have hcon2 := hamming_any v a2 cap c2 w5.heap.size w5.heap.size rs ys w5 (HG2.out.next b5) (M2.out.next b5) (Nat.le_refl _) (Nat.le_refl _)
          rw [HE2.out] at hcon2
          have HC2 := Lib.hid hcon2
          have B7 := Lib.hid (Below.next B6.out (Nat.le_refl _) b5)
          clear hcon2 b5 HC
          go_wp2_with fail
          refine HC2.out.mono ?_
          rintro e w6 ⟨rfl, b6⟩
          have B8 := Lib.hid (Below.next B7.out (Nat.le_refl _) b6)
          clear b6 HC2
          have htr := HT.out
          go_wp2
          go_ret
          exact ⟨by first | rfl | (simp; omega), B8.out⟩
        · obtain ⟨b, off, rfl, hb', hc⟩ := (K1.out.next HBe.out).at_ (i := j) (by omega)
          go_wp2_with (at_builtin; refine wpList_append1 (.tmp 35) (.tmp 40) w4.heap.size v n cap _ ⟨wr.heap.size, 0, none⟩ (el xs j) rfl rfl rfl rfl (HG.out.alloc _) (by simp) (by omega) (by simp; omega) ?_; intro a3 cap3 w3 hg3 hb3; have HG3 := Lib.hid hg3; have HB3 := Lib.hid hb3; clear hg3 hb3)
          go_roundw
          case rel => exact ⟨j, n + 1, a3, cap3, by omega, idx_pred j, rfl, by have := HN.out; omega, by rw [rev_take HN.out]; exact HG3.out, (HBe.out.alloc hsz _).trans HB3.out⟩
          case measure => simp [intOf]
  · go_enter Try.func8, Try.ntmps8
    go_wp2
    go_ret
    exact ⟨rfl, Below.refl _ _⟩
end Go.Proofs.Ytnedhpodfjlnmaa
