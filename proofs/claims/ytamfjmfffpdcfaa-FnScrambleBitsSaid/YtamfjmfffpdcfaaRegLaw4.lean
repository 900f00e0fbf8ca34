/-
  The laws of ScrambledStream and ScrambleBits, walked: they return true for every code, and write into nothing that was there.
-/
import Derived.Test.YtamfjmfffpdcfaaRegLaw1
import Derived.Test.YtamfjmfffpdcfaaLawMath
namespace Go.Proofs.Ytamfjmfffpdcfaa
open Go.RowKit

theorem scr_pair {xs : List Int} {t s : Int} (h : bitsOk xs = true) (hr : regOk t s = true) : pairOk xs (outsOr t s xs.length) = true ∧ (outsOr t s xs.length).length = xs.length := by
  have hl := bitsOk_length h
  have hok : shOk t s xs.length = true := by
    simp only [shOk, hr, Bool.true_and, Bool.and_eq_true, decide_eq_true_eq]; omega
  have hE : outsOr t s xs.length = outs t.toNat s.toNat xs.length := by simp [outsOr, hok]
  rw [hE]
  have hlen := outs_length t.toNat s.toNat xs.length
  refine ⟨?_, hlen⟩
  have hb : bitsOk (outs t.toNat s.toNat xs.length) = true := bitsOk_of (by rw [hlen]; exact hl) (fun i hi => by
    rw [outs_el (by rw [hlen] at hi; exact hi)]; exact outAt_bit _ _ _)
  simp [pairOk, h, hb, hlen]
theorem scr_yes {xs : List Int} {t s : Int} (h : bitsOk xs = true) (hr : regOk t s = true) : scrOr xs t s = sumBits xs (outsOr t s xs.length) := by
  simp [scrOr, sumOr, (scr_pair h hr).1]
theorem scr_length {xs : List Int} {t s : Int} (h : bitsOk xs = true) (hr : regOk t s = true) : (scrOr xs t s).length = xs.length := by
  rw [scr_yes h hr, sumBits_length]
theorem scr_ok {xs : List Int} {t s : Int} (h : bitsOk xs = true) (hr : regOk t s = true) : bitsOk (scrOr xs t s) = true := by
  rw [scr_yes h hr]; exact sumBits_ok (bitsOk_length h)
/-- Scrambling twice undoes. -/
theorem scr_back {xs : List Int} {t s : Int} (h : bitsOk xs = true) (hr : regOk t s = true) : scrOr (scrOr xs t s) t s = xs := by
  rw [scr_yes (scr_ok h hr) hr, scr_length h hr, scr_yes h hr]
  exact sum_back (scr_pair h hr).1
/-- Scrambling zeros yields the outputs. -/
theorem scr_zeros {n : Nat} {t s : Int} (hn : n ≤ 1024) (hr : regOk t s = true) : scrOr (zeros n) t s = outsOr t s n := by
  have h := zeros_ok hn
  have hp := scr_pair h hr
  rw [scr_yes h hr]
  rw [zeros_length] at hp ⊢
  refine list_ext (by rw [sumBits_length, zeros_length, hp.2]) fun j hj => ?_
  rw [sumBits_length, zeros_length] at hj
  rw [sumBits_el _ _ _ (by rw [zeros_length]; exact hj), xorF_at (by rw [zeros_length]; exact hj), zeros_el]
  have hb := bit_cases (pairOk_parts hp.1).2.1 (k := j) (by rw [hp.2]; exact hj)
  rcases hb with e | e <;> rw [e] <;> simp
/-- Scrambling a sum is adding one list to the other, scrambled. -/
theorem scr_sum {xs ys : List Int} {t s : Int} (h : pairOk xs ys = true) (hr : regOk t s = true) : scrOr (sumOr xs ys) t s = sumOr (scrOr xs t s) ys := by
  obtain ⟨h1, h2, h3⟩ := pairOk_parts h
  have hS : sumOr xs ys = sumBits xs ys := by simp [sumOr, h]
  have hl := bitsOk_length h1
  have hok : bitsOk (sumBits xs ys) = true := sumBits_ok hl
  have hp := scr_pair h1 hr
  have hq : pairOk (scrOr xs t s) ys = true := by simp [pairOk, scr_ok h1 hr, h2, scr_length h1 hr, h3]
  rw [hS, scr_yes hok hr, show sumOr (scrOr xs t s) ys = sumBits (scrOr xs t s) ys by simp [sumOr, hq], scr_yes h1 hr, sumBits_length]
  refine list_ext (by simp only [sumBits_length]) fun j hj => ?_
  rw [sumBits_length, sumBits_length] at hj
  have e1 : j < (sumBits xs ys).length := by rw [sumBits_length]; exact hj
  have e2 : j < (sumBits xs (outsOr t s xs.length)).length := by rw [sumBits_length]; exact hj
  rw [sumBits_el _ _ _ e1, sumBits_el _ _ _ e2, xorF_at e1, xorF_at e2, sumBits_el _ _ _ hj, sumBits_el _ _ _ hj, xorF_at hj, xorF_at hj]
  cases decide (el xs j = 1) <;> cases decide (el ys j = 1) <;> cases decide (el (outsOr t s xs.length) j = 1) <;> rfl
theorem sumOr_len {xs ys : List Int} : (sumOr xs ys).length ≤ 1048576 := by
  unfold sumOr
  split
  · next h => rw [sumBits_length]; have := bitsOk_length (pairOk_parts h).1; omega
  · simp
theorem scrOr_lenR (xs : List Int) (t s : Int) : (scrOr xs t s).length ≤ 1048576 := sumOr_len

set_option maxHeartbeats 2000000 in
theorem walkScrambledStream (a : Option Addr) (c : Nat) (ds : List Int) (w : World) (hx : Ints .u8 w w.heap.size a ds) (hw : ∀ n ∈ ds, (Lit.int .u8 n).wf = true) (hc : ds.length ≤ c) (hcm : c ≤ maxLen) :
    Calls Try.prog 6 #[.slice a ds.length c] w fun e w' => e = .returned (.bool true) ∧ Below w.heap.size w w' := by
  have hb := isByte_of_wf hw
  clear hw
  by_cases hl : ds.length ≤ 1048576
  · go_enter Try.func6, Try.ntmps6
    go_wp2_with fail
    refine (drawAdd_any a c ds w hx hb hc hcm).mono ?_
    rintro e w1 ⟨xs, ys, a1, a2, c1, c2, rfl, l1, l2, _, _, i1, i2, b1⟩
    have I1 := Lib.hid i1
    have J1 := Lib.hid i2
    have B1 := Lib.hid b1
    clear hx hb hc hcm i1 i2 b1
    have HL1 := Lib.hid (show xs.length ≤ maxLen by unfold maxLen; omega)
    have HL2 := Lib.hid (show ys.length ≤ maxLen by unfold maxLen; omega)
    obtain ⟨S, hS⟩ : ∃ S, S = sumOr xs ys := ⟨_, rfl⟩
    have HSl := Lib.hid (show S.length ≤ 1048576 by rw [hS]; exact sumOr_len)
    have HS := Lib.hid hS
    have z3 : decide (S = S) = true := by simp
    clear hS
    go_wp2_with fail
    refine (addBits_room a1 a2 c1 c2 w1.heap.size w1.heap.size xs ys w1 I1.out J1.out (Nat.le_refl _) (Nat.le_refl _)).mono ?_
    rw [← HS.out]
    rintro e w2 ⟨v2, cv2, rfl, _, o2, b2⟩
    have V2 := Lib.hid (own_of_list o2).ints
    have I2 := Lib.hid (I1.out.next b2)
    have J2 := Lib.hid (J1.out.next b2)
    have B2 := Lib.hid (Below.next B1.out (Nat.le_refl _) b2)
    clear o2 b2 I1 J1 B1
    go_wp2_with fail
    refine (specAddBits_any a1 a2 c1 c2 w2.heap.size w2.heap.size xs ys w2 I2.out J2.out (Nat.le_refl _) (Nat.le_refl _) HL1.out HL2.out).mono ?_
    rw [← HS.out]
    rintro e w3 ⟨v3, cv3, rfl, o3, b3⟩
    have U3 := Lib.hid (own_of_list o3).ints
    have V3 := Lib.hid (V2.out.next b3)
    have I3 := Lib.hid (I2.out.next b3)
    have J3 := Lib.hid (J2.out.next b3)
    have B3 := Lib.hid (Below.next B2.out (Nat.le_refl _) b3)
    clear o3 b3 V2 I2 J2 B2
    go_wp2_with fail
    refine (sameInts_any v2 v3 cv2 cv3 w3.heap.size w3.heap.size S S w3 V3.out U3.out HSl.out).mono ?_
    rintro e w4 ⟨rfl, n4, rfl⟩
    have B4 := Lib.hid (below_drewN B3.out n4)
    have V4 : Hid (Ints .i64 (w3.drewN n4) (w3.drewN n4).heap.size v2 S) := V3.out
    have I4 : Hid (Ints .i64 (w3.drewN n4) (w3.drewN n4).heap.size a1 xs) := I3.out
    have J4 : Hid (Ints .i64 (w3.drewN n4) (w3.drewN n4).heap.size a2 ys) := J3.out
    clear B3 V3 I3 J3 U3 z3
    generalize w3.drewN n4 = w5 at *
    by_cases h0 : S.length = 0
    · have heq : ((S.length : Int) == 0) = true := by rw [h0]; rfl
      clear h0
      go_wp2_with fail
      refine (alive_any w5).mono ?_
      rintro e w6 ⟨rfl, b6⟩
      have B6 := Lib.hid (Below.next B4.out (Nat.le_refl _) b6)
      clear b6
      go_wp2
      go_ret
      exact ⟨rfl, B6.out⟩
    · have heq : ((S.length : Int) == 0) = false := by rw [beq_eq_false_iff_ne]; omega
      have hpk : pairOk xs ys = true := by
        cases hp : pairOk xs ys
        · exact absurd (by rw [HS.out]; simp [sumOr, hp]) h0
        · rfl
      have HEq := Lib.hid (show scrOr S 19 5 = sumOr (scrOr xs 19 5) ys by rw [HS.out]; exact scr_sum hpk (reg19 (S := 5) (by omega) (by omega)))
      clear h0 hpk
      go_wp2_with fail
      refine (scramble_any v2 cv2 S 19 5 w5 V4.out).mono ?_
      rintro e w6 ⟨v6, cv6, rfl, _, o6, b6⟩
      have P6 := Lib.hid (own_of_list o6).ints
      have I6 := Lib.hid (I4.out.next b6)
      have J6 := Lib.hid (J4.out.next b6)
      have B6 := Lib.hid (Below.next B4.out (Nat.le_refl _) b6)
      clear o6 b6 V4 I4 J4 B4
      go_wp2_with fail
      refine (scramble_any a1 c1 xs 19 5 w6 I6.out).mono ?_
      rintro e w7 ⟨v7, cv7, rfl, _, o7, b7⟩
      have Q7 := Lib.hid (own_of_list o7).ints
      have P7 := Lib.hid (P6.out.next b7)
      have J7 := Lib.hid (J6.out.next b7)
      have B7 := Lib.hid (Below.next B6.out (Nat.le_refl _) b7)
      clear o7 b7 P6 I6 J6 B6
      go_wp2_with fail
      refine (addBits_room v7 a2 cv7 c2 w7.heap.size w7.heap.size (scrOr xs 19 5) ys w7 Q7.out J7.out (Nat.le_refl _) (Nat.le_refl _)).mono ?_
      rw [← HEq.out]
      rintro e w8 ⟨v8, cv8, rfl, _, o8, b8⟩
      have R8 := Lib.hid (own_of_list o8).ints
      have P8 := Lib.hid (P7.out.next b8)
      have B8 := Lib.hid (Below.next B7.out (Nat.le_refl _) b8)
      clear o8 b8
      have z4 : decide (scrOr S 19 5 = scrOr S 19 5) = true := by simp
      go_wp2_with fail
      refine (sameInts_any v6 v8 cv6 cv8 w8.heap.size w8.heap.size (scrOr S 19 5) (scrOr S 19 5) w8 P8.out R8.out (scrOr_lenR _ _ _)).mono ?_
      rintro e w9 ⟨rfl, n9, rfl⟩
      go_wp2
      go_ret
      exact ⟨rfl, below_drewN B8.out n9⟩
  · go_enter Try.func6, Try.ntmps6
    go_wp2
    go_ret
    exact ⟨rfl, Below.refl _ _⟩
end Go.Proofs.Ytamfjmfffpdcfaa
