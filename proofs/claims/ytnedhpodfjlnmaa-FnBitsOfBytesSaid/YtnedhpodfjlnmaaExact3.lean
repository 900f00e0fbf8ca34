/-
  The laws of the exactness of BitsOfBytes and BytesOfBits, walked: they return true for every list, and write into nothing that was there.
-/
import Derived.Test.YtnedhpodfjlnmaaSpec4
namespace Go.Proofs.Ytnedhpodfjlnmaa
open Go.RowKit

theorem isByte_of_wf {xs : List Int} (h : ∀ n ∈ xs, (Lit.int .u8 n).wf = true) : ∀ n ∈ xs, isByte n := fun n hn => by
  have := h n hn
  simp [Lit.wf, IntKind.min, IntKind.max, IntKind.signed, IntKind.bits] at this
  exact ⟨this.1, by omega⟩
theorem bobOr_length (ds : List Int) : (bobOr ds).length ≤ 1048576 := by
  unfold bobOr; split
  · next h => rw [bitList_length]; have : ds.length ≤ 128 := by simpa [bytesOk] using h
              omega
  · simp
theorem yobOr_length (xs : List Int) (h : xs.length ≤ 1048576) : (yobOr xs).length ≤ 1048576 := by
  unfold yobOr; split
  · rw [byteList_length]; omega
  · simp
theorem own_of_bytes {w w' : World} {a : Option Addr} {xs : List Int} (h : OwnInts .u8 5 w' w.heap.size a xs) : Own .u8 5 w' w.heap.size w'.heap.size a xs := fun hne => by
  obtain ⟨b, cap, e, h1, h2, f, h4, h5⟩ := h hne
  exact ⟨b, cap, f, e, h1, h4.lt, h2, h4, h5⟩
theorem toByteS_ints (a : Option Addr) (c : Nat) (xs : List Int) (w : World) (hx : Ints .u8 w w.heap.size a xs) (hl : xs.length ≤ 1048576) :
    Calls Try.prog 34 #[.slice a xs.length c] w fun e w' => ∃ v, e = .returned (.slice v xs.length xs.length) ∧ Ints .u8 w' w'.heap.size v xs ∧ Below w.heap.size w w' :=
  (toByteS_own a c xs w hx hl).mono fun _ _ ⟨v, h1, h2, h3⟩ => ⟨v, h1, h2.ints, h3⟩

set_option maxHeartbeats 2000000 in
theorem walkExactBitsOfBytes (a : Option Addr) (c : Nat) (xs : List Int) (w : World) (hx : Ints .u8 w w.heap.size a xs) (hw : ∀ n ∈ xs, (Lit.int .u8 n).wf = true) :
    Calls Try.prog 10 #[.slice a xs.length c] w fun e w' => e = .returned (.bool true) ∧ Below w.heap.size w w' := by
  have HX := Lib.hid hx
  have HW := Lib.hid (isByte_of_wf hw)
  clear hx hw
  by_cases hl : xs.length ≤ 1048576
  · have HL := Lib.hid (show xs.length ≤ maxLen by unfold maxLen; omega)
    obtain ⟨S, hS⟩ : ∃ S, S = bobOr xs := ⟨_, rfl⟩
    have hSl : S.length ≤ 1048576 := by rw [hS]; exact bobOr_length xs
    have HS := Lib.hid hS
    clear hS
    have z1 : decide (xs = xs) = true := by simp
    have z3 : decide (S = S) = true := by simp
    go_enter Try.func10, Try.ntmps10
    go_wp2_with fail
    refine (toByteS_ints a c xs w HX.out hl).mono ?_
    rintro e w1 ⟨v1, rfl, p1, b1⟩
    have P1 := Lib.hid p1
    have B1 := Lib.hid b1
    clear p1 b1
    go_wp2_with fail
    refine (specBitsOfBytes_any _ _ w1.heap.size xs w1 P1.out (Nat.le_refl _) HW.out HL.out).mono ?_
    rw [← HS.out]
    rintro e w3 ⟨v0, cv0, rfl, o3, b3⟩
    have W3 := Lib.hid (own_of_list o3).ints
    have B3 := Lib.hid (Below.next B1.out (Nat.le_refl _) b3)
    clear P1 B1 o3 b3
    go_wp2_with fail
    refine (toByteS_own a c xs w3 (HX.out.next B3.out) hl).mono ?_
    rintro e w4 ⟨x0, rfl, p4, b4⟩
    have X4 := Lib.hid p4
    have W4 := Lib.hid (W3.out.below b4)
    have B4 := Lib.hid (Below.next B3.out (Nat.le_refl _) b4)
    have s34 : w3.heap.size ≤ w4.heap.size := b4.size
    clear p4 b4
    go_wp2_with fail
    refine (bitsOfBytes_any _ _ w4.heap.size xs w4 X4.out.ints (Nat.le_refl _) HW.out).mono ?_
    rw [← HS.out]
    rintro e w6 ⟨g0, cg0, rfl, o6, b6⟩
    have G6 := Lib.hid (own_of_list o6)
    have X6 := Lib.hid (X4.out.next b6)
    have W6 := Lib.hid (W4.out.below (b6.mono (by omega)))
    have B6 := Lib.hid (Below.next B4.out (Nat.le_refl _) b6)
    have s46 : w4.heap.size ≤ w6.heap.size := b6.size
    clear o6 b6
    go_wp2_with fail
    refine (eqIntS_any _ _ _ _ w6.heap.size w3.heap.size S S w6 G6.out.ints W6.out hSl).mono ?_
    rintro e w7 ⟨rfl, n7, rfl⟩
    go_wp2_with fail
    refine (toByteS_ints a c xs _ (HX.out.next (below_drewN B6.out n7)) hl).mono ?_
    rintro e w8 ⟨v8, rfl, p8, b8⟩
    have P8 := Lib.hid p8
    have G8 := Lib.hid (Own.next (w := w6.drewN n7) G6.out b8)
    have X8 := Lib.hid (Own.next (w := w6.drewN n7) X6.out b8)
    have W8 := Lib.hid (Ints.below (w := w6.drewN n7) W6.out (b8.mono (by show w3.heap.size ≤ w6.heap.size; omega)))
    have B8 := Lib.hid (Below.next (below_drewN B6.out n7) (Nat.le_refl _) b8)
    have s68 : w6.heap.size ≤ w8.heap.size := b8.size
    clear p8 b8
    go_wp2_with fail
    refine (eqByteS_any _ _ _ _ w4.heap.size w8.heap.size xs xs w8 X8.out.ints P8.out hl).mono ?_
    rintro e w11 ⟨rfl, n11, rfl⟩
    clear P8 X6 X4 G6 W3 W4 W6
    go_wp2_with fail
    refine (markByteS_own x0 _ 1 w3.heap.size w4.heap.size xs (w8.drewN n11) X8.out hl (by omega)).mono ?_
    rintro e w12 ⟨rfl, _, k12⟩
    have G12 := Lib.hid (Own.keep (w := w8.drewN n11) G8.out k12 (.inr (Nat.le_refl _)))
    have W12 := Lib.hid (Ints.out (w := w8.drewN n11) W8.out k12 (Nat.le_refl _) (by show w3.heap.size ≤ w8.heap.size; omega))
    have B12 := Lib.hid ((below_drewN B8.out n11).trans ((k12.below (by show w3.heap.size ≤ w8.heap.size; omega)).mono B3.out.size))
    have s12 : w8.heap.size ≤ w12.heap.size := k12.size
    clear k12 X8 G8 W8
    have hk2 : ¬ (((1 + xs.length : Nat) : Int) < 0) := by omega
    go_wp2_with fail
    refine (eqIntS_any _ _ _ _ w6.heap.size w3.heap.size S S w12 G12.out.ints W12.out hSl).mono ?_
    rintro e w14 ⟨rfl, n14, rfl⟩
    go_wp2_with fail
    refine (markIntS_own g0 _ 1 w4.heap.size w6.heap.size S (w12.drewN n14) G12.out hSl (by omega)).mono ?_
    rintro e w15 ⟨rfl, g15, k15⟩
    have G15 := Lib.hid g15
    have W15 := Lib.hid (Ints.out (w := w12.drewN n14) W12.out k15 (by omega) (by show w3.heap.size ≤ w12.heap.size; omega))
    have B15 := Lib.hid ((below_drewN B12.out n14).trans ((k15.below (by show w4.heap.size ≤ w12.heap.size; omega)).mono B4.out.size))
    have s15 : w12.heap.size ≤ w15.heap.size := k15.size
    clear k15 g15 G12 W12
    go_wp2_with fail
    refine (heldIntS_any g0 w6.heap.size _ S.length 1 w15 G15.out.ints hSl (by omega)).mono ?_
    rintro e w16 ⟨rfl, rfl⟩
    go_wp2_with fail
    refine (toByteS_ints a c xs w15 (HX.out.next B15.out) hl).mono ?_
    rintro e w17 ⟨v17, rfl, p17, b17⟩
    have P17 := Lib.hid p17
    have G17 := Lib.hid (G15.out.next b17)
    have W17 := Lib.hid (W15.out.below (b17.mono (by omega)))
    have B17 := Lib.hid (Below.next B15.out (Nat.le_refl _) b17)
    have s17 : w15.heap.size ≤ w17.heap.size := b17.size
    clear p17 b17 G15 W15
    go_wp2_with fail
    refine (bitsOfBytes_any _ _ w17.heap.size xs w17 P17.out (Nat.le_refl _) HW.out).mono ?_
    rw [← HS.out]
    rintro e w19 ⟨h0, ch0, rfl, o19, b19⟩
    have H19 := Lib.hid (own_of_list o19).ints
    have G19 := Lib.hid (G17.out.next b19)
    have W19 := Lib.hid (W17.out.below (b19.mono (by omega)))
    have B19 := Lib.hid (Below.next B17.out (Nat.le_refl _) b19)
    clear o19 b19 G17 W17 P17
    go_wp2_with fail
    refine (eqIntS_any _ _ _ _ w19.heap.size w3.heap.size S S w19 H19.out W19.out hSl).mono ?_
    rintro e w20 ⟨rfl, n20, rfl⟩
    go_wp2_with fail
    refine (heldIntS_any g0 w6.heap.size _ S.length 1 (w19.drewN n20) G19.out.ints hSl (by omega)).mono ?_
    rintro e w21 ⟨rfl, rfl⟩
    go_wp2
    go_ret
    exact ⟨rfl, below_drewN B19.out n20⟩
  · go_enter Try.func10, Try.ntmps10
    go_wp2
    go_ret
    exact ⟨rfl, Below.refl _ _⟩

set_option maxHeartbeats 2000000 in
theorem walkExactBytesOfBits (a : Option Addr) (c : Nat) (xs : List Int) (w : World) (hx : Ints .i64 w w.heap.size a xs) (_hw : ∀ n ∈ xs, (Lit.int .i64 n).wf = true) :
    Calls Try.prog 11 #[.slice a xs.length c] w fun e w' => e = .returned (.bool true) ∧ Below w.heap.size w w' := by
  have HX := Lib.hid hx
  clear hx _hw
  by_cases hl : xs.length ≤ 1048576
  · have HL := Lib.hid (show xs.length ≤ maxLen by unfold maxLen; omega)
    obtain ⟨S, hS⟩ : ∃ S, S = yobOr xs := ⟨_, rfl⟩
    have hSl : S.length ≤ 1048576 := by rw [hS]; exact yobOr_length xs hl
    have HS := Lib.hid hS
    clear hS
    obtain ⟨ok, hok⟩ : ∃ ok, ok = packOk xs := ⟨_, rfl⟩
    have HOk := Lib.hid hok
    clear hok
    have z1 : decide (xs = xs) = true := by simp
    have z3 : decide (S = S) = true := by simp
    have z4 : (ok != ok) = false := by simp
    go_enter Try.func11, Try.ntmps11
    go_wp2_with fail
    refine (toIntS_ints a c xs w HX.out hl).mono ?_
    rintro e w1 ⟨rfl, p1, b1⟩
    have P1 := Lib.hid p1
    have B1 := Lib.hid b1
    clear p1 b1
    go_wp2_with fail
    refine (specBytesOfBits_any _ _ w1.heap.size xs w1 P1.out (Nat.le_refl _) HL.out).mono ?_
    rw [← HS.out, ← HOk.out]
    rintro e w3 ⟨v0, cv0, rfl, o3, b3⟩
    have W3 := Lib.hid (own_of_bytes o3).ints
    have B3 := Lib.hid (Below.next B1.out (Nat.le_refl _) b3)
    clear P1 B1 o3 b3
    go_wp2_with fail
    refine (toIntS_own a c xs w3 (HX.out.next B3.out) hl).mono ?_
    rintro e w4 ⟨x0, rfl, p4, b4⟩
    have X4 := Lib.hid p4
    have W4 := Lib.hid (W3.out.below b4)
    have B4 := Lib.hid (Below.next B3.out (Nat.le_refl _) b4)
    have s34 : w3.heap.size ≤ w4.heap.size := b4.size
    clear p4 b4
    go_wp2_with fail
    refine (bytesOfBits_any _ _ w4.heap.size xs w4 X4.out.ints (Nat.le_refl _)).mono ?_
    rw [← HS.out, ← HOk.out]
    rintro e w6 ⟨g0, cg0, rfl, o6, b6⟩
    have G6 := Lib.hid (own_of_bytes o6)
    have X6 := Lib.hid (X4.out.next b6)
    have W6 := Lib.hid (W4.out.below (b6.mono (by omega)))
    have B6 := Lib.hid (Below.next B4.out (Nat.le_refl _) b6)
    have s46 : w4.heap.size ≤ w6.heap.size := b6.size
    clear o6 b6
    go_wp2_with fail
    refine (eqByteS_any _ _ _ _ w6.heap.size w3.heap.size S S w6 G6.out.ints W6.out hSl).mono ?_
    rintro e w7 ⟨rfl, n7, rfl⟩
    go_wp2_with fail
    refine (toIntS_ints a c xs _ (HX.out.next (below_drewN B6.out n7)) hl).mono ?_
    rintro e w8 ⟨rfl, p8, b8⟩
    have P8 := Lib.hid p8
    have G8 := Lib.hid (Own.next (w := w6.drewN n7) G6.out b8)
    have X8 := Lib.hid (Own.next (w := w6.drewN n7) X6.out b8)
    have W8 := Lib.hid (Ints.below (w := w6.drewN n7) W6.out (b8.mono (by show w3.heap.size ≤ w6.heap.size; omega)))
    have B8 := Lib.hid (Below.next (below_drewN B6.out n7) (Nat.le_refl _) b8)
    have s68 : w6.heap.size ≤ w8.heap.size := b8.size
    clear p8 b8
    go_wp2_with fail
    refine (eqIntS_any _ _ _ _ w4.heap.size w8.heap.size xs xs w8 X8.out.ints P8.out hl).mono ?_
    rintro e w11 ⟨rfl, n11, rfl⟩
    clear P8 X6 X4 G6 W3 W4 W6
    go_wp2_with fail
    refine (markIntS_own x0 _ 1 w3.heap.size w4.heap.size xs (w8.drewN n11) X8.out hl (by omega)).mono ?_
    rintro e w12 ⟨rfl, _, k12⟩
    have G12 := Lib.hid (Own.keep (w := w8.drewN n11) G8.out k12 (.inr (Nat.le_refl _)))
    have W12 := Lib.hid (Ints.out (w := w8.drewN n11) W8.out k12 (Nat.le_refl _) (by show w3.heap.size ≤ w8.heap.size; omega))
    have B12 := Lib.hid ((below_drewN B8.out n11).trans ((k12.below (by show w3.heap.size ≤ w8.heap.size; omega)).mono B3.out.size))
    have s12 : w8.heap.size ≤ w12.heap.size := k12.size
    clear k12 X8 G8 W8
    have hk2 : ¬ (((1 + xs.length : Nat) : Int) < 0) := by omega
    go_wp2_with fail
    refine (eqByteS_any _ _ _ _ w6.heap.size w3.heap.size S S w12 G12.out.ints W12.out hSl).mono ?_
    rintro e w14 ⟨rfl, n14, rfl⟩
    go_wp2_with fail
    refine (markByteS_own g0 _ 1 w4.heap.size w6.heap.size S (w12.drewN n14) G12.out hSl (by omega)).mono ?_
    rintro e w15 ⟨rfl, g15, k15⟩
    have G15 := Lib.hid g15
    have W15 := Lib.hid (Ints.out (w := w12.drewN n14) W12.out k15 (by omega) (by show w3.heap.size ≤ w12.heap.size; omega))
    have B15 := Lib.hid ((below_drewN B12.out n14).trans ((k15.below (by show w4.heap.size ≤ w12.heap.size; omega)).mono B4.out.size))
    have s15 : w12.heap.size ≤ w15.heap.size := k15.size
    clear k15 g15 G12 W12
    go_wp2_with fail
    refine (heldByteS_any g0 w6.heap.size _ S.length 1 w15 G15.out.ints hSl (by omega)).mono ?_
    rintro e w16 ⟨rfl, rfl⟩
    go_wp2_with fail
    refine (toIntS_ints a c xs w15 (HX.out.next B15.out) hl).mono ?_
    rintro e w17 ⟨rfl, p17, b17⟩
    have P17 := Lib.hid p17
    have G17 := Lib.hid (G15.out.next b17)
    have W17 := Lib.hid (W15.out.below (b17.mono (by omega)))
    have B17 := Lib.hid (Below.next B15.out (Nat.le_refl _) b17)
    have s17 : w15.heap.size ≤ w17.heap.size := b17.size
    clear p17 b17 G15 W15
    go_wp2_with fail
    refine (bytesOfBits_any _ _ w17.heap.size xs w17 P17.out (Nat.le_refl _)).mono ?_
    rw [← HS.out, ← HOk.out]
    rintro e w19 ⟨h0, ch0, rfl, o19, b19⟩
    have H19 := Lib.hid (own_of_bytes o19).ints
    have G19 := Lib.hid (G17.out.next b19)
    have W19 := Lib.hid (W17.out.below (b19.mono (by omega)))
    have B19 := Lib.hid (Below.next B17.out (Nat.le_refl _) b19)
    clear o19 b19 G17 W17 P17
    go_wp2_with fail
    refine (eqByteS_any _ _ _ _ w19.heap.size w3.heap.size S S w19 H19.out W19.out hSl).mono ?_
    rintro e w20 ⟨rfl, n20, rfl⟩
    go_wp2_with fail
    refine (heldByteS_any g0 w6.heap.size _ S.length 1 (w19.drewN n20) G19.out.ints hSl (by omega)).mono ?_
    rintro e w21 ⟨rfl, rfl⟩
    go_wp2
    go_ret
    exact ⟨rfl, below_drewN B19.out n20⟩
  · go_enter Try.func11, Try.ntmps11
    go_wp2
    go_ret
    exact ⟨rfl, Below.refl _ _⟩
end Go.Proofs.Ytnedhpodfjlnmaa
