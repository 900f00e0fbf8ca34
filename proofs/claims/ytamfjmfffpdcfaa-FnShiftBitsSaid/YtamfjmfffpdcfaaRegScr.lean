/-
  What ScrambleBits and its model answer: the sum of the list and of the register's outputs, or nothing. Condition: a list that can be read.
-/
import Derived.Test.YtamfjmfffpdcfaaRegSpec
import Derived.Test.YtamfjmfffpdcfaaOwn
namespace Go.Proofs.Ytamfjmfffpdcfaa
open Go.RowKit

/-- What ScrambleBits answers. -/
def scrOr (xs : List Int) (t s : Int) : List Int := sumOr xs (outsOr t s xs.length)
theorem ListPostC.since {xs : List Int} {w w1 w2 : World} {e : Ending} (h : ListPostC xs w1 e w2) (hb : Below w.heap.size w w1) : ListPostC xs w e w2 := by
  obtain ⟨a, cap, h1, h2, h3, h4⟩ := h
  refine ⟨a, cap, h1, h2, fun hne => ?_, Below.next hb (Nat.le_refl _) h4⟩
  obtain ⟨b, cap', e1, e2, e3, e4⟩ := h3 hne
  exact ⟨b, cap', e1, Nat.le_trans hb.size e2, e3, e4⟩
theorem ListPost.since {xs : List Int} {w w1 w2 : World} {e : Ending} (h : ListPost xs w1 e w2) (hb : Below w.heap.size w w1) : ListPost xs w e w2 := by
  obtain ⟨a, cap, h1, h3, h4⟩ := h
  refine ⟨a, cap, h1, fun hne => ?_, Below.next hb (Nat.le_refl _) h4⟩
  obtain ⟨b, cap', e1, e2, e3, e4⟩ := h3 hne
  exact ⟨b, cap', e1, Nat.le_trans hb.size e2, e3, e4⟩
theorem outsOr_length (t s n : Int) : (outsOr t s n).length ≤ 1024 := by
  unfold outsOr
  split
  · next h => rw [outs_length]; have := (shOk_parts h).2; omega
  · simp
theorem scrOr_bad {xs : List Int} {t s : Int} (h : bitsOk xs = false) : scrOr xs t s = [] := by simp [scrOr, sumOr, pairOk, h]
theorem sumOr_nil (xs : List Int) : sumOr xs [] = [] := by
  unfold sumOr
  split
  · next h =>
    have := (pairOk_parts h).2.2
    simp at this
    subst this
    simp [sumBits, bitList]
  · rfl
theorem scrOr_reg {xs : List Int} {t s : Int} (h : regOk t s = false) : scrOr xs t s = [] := by
  simp [scrOr, outsOr, shOk, h, sumOr_nil]

theorem scramble_any (a : Option Addr) (c : Nat) (xs : List Int) (t s : Int) (w : World) (hx : Ints .i64 w w.heap.size a xs) :
    Calls Try.prog 25 #[.slice a xs.length c, .int .i64 t, .int .i64 s] w (ListPostC (scrOr xs t s) w) := by
  have HX := Lib.hid hx
  clear hx
  obtain ⟨O, hO⟩ : ∃ O, O = outsOr t s xs.length := ⟨_, rfl⟩
  have HE := Lib.hid (show scrOr xs t s = sumOr xs O by rw [hO]; rfl)
  have HO := Lib.hid hO
  clear hO
  go_enter Try.func25, Try.ntmps25
  go_wp2_with fail
  refine (shiftBits_any t s xs.length w).mono ?_
  rw [← HO.out]
  rintro e w1 ⟨v, cv, rfl, _, o1, b1⟩
  have X1 := Lib.hid (HX.out.below b1)
  have O1 := Lib.hid (own_of_list o1).ints
  have B1 := Lib.hid b1
  have s1 : w.heap.size ≤ w1.heap.size := b1.size
  clear o1 b1 HX
  go_wp2_with fail
  refine (addBits_room a v c cv w.heap.size w1.heap.size xs O w1 X1.out O1.out s1 (Nat.le_refl _)).mono ?_
  rintro e w2 h2
  have H2 := Lib.hid (h2.since B1.out)
  obtain ⟨v2, c2, rfl, _⟩ := h2
  go_wp2
  go_ret
  rw [HE.out]
  exact H2.out
theorem specScramble_any (a : Option Addr) (c : Nat) (xs : List Int) (t s : Int) (w : World) (hx : Ints .i64 w w.heap.size a xs) (hl : xs.length ≤ maxLen) :
    Calls Try.prog 26 #[.slice a xs.length c, .int .i64 t, .int .i64 s] w (ListPost (scrOr xs t s) w) := by
  have HX := Lib.hid hx
  have HL := Lib.hid hl
  have HV := Lib.hid (specBitsValid_any a c w.heap.size xs w hx hl)
  have HR := Lib.hid (l3Ok_any t s w)
  clear hx hl
  cases hb : bitsOk xs
  · rw [hb] at HV
    have HE := Lib.hid (scrOr_bad (t := t) (s := s) hb)
    go_enter Try.func26, Try.ntmps26
    go_wp2_with (go_at_call 45; refine HV.out.mono ?_; rintro e w' ⟨rfl, rfl⟩)
    go_ret
    rw [HE.out]
    exact listPost_grow (Grow.lit0 _ _ _ _ (Nat.le_refl _)) ((Below.refl _ _).alloc (Nat.le_refl _) _)
  · rw [hb] at HV
    cases hr : regOk t s
    · rw [hr] at HR
      have HE := Lib.hid (scrOr_reg (xs := xs) hr)
      go_enter Try.func26, Try.ntmps26
      go_wp2_with (first | (go_at_call 45; refine HV.out.mono ?_; rintro e w' ⟨rfl, rfl⟩) | (go_at_call 40; refine HR.out.mono ?_; rintro e w' ⟨rfl, rfl⟩))
      go_ret
      rw [HE.out]
      exact listPost_grow (Grow.lit0 _ _ _ _ (Nat.le_refl _)) ((Below.refl _ _).alloc (Nat.le_refl _) _)
    · rw [hr] at HR
      obtain ⟨O, hO⟩ : ∃ O, O = outsOr t s xs.length := ⟨_, rfl⟩
      have HE := Lib.hid (show scrOr xs t s = sumOr xs O by rw [hO]; rfl)
      have HOl := Lib.hid (show O.length ≤ maxLen by rw [hO]; have := outsOr_length t s xs.length; unfold maxLen; omega)
      have HO := Lib.hid hO
      clear hO hb hr
      go_enter Try.func26, Try.ntmps26
      go_wp2_with (first | (go_at_call 45; refine HV.out.mono ?_; rintro e w' ⟨rfl, rfl⟩) | (go_at_call 40; refine HR.out.mono ?_; rintro e w' ⟨rfl, rfl⟩))
      refine (specShiftBits_any t s xs.length w).mono ?_
      rw [← HO.out]
      rintro e w1 ⟨v, cv, rfl, _, o1, b1⟩
      have X1 := Lib.hid (HX.out.below b1)
      have O1 := Lib.hid (own_of_list o1).ints
      have B1 := Lib.hid b1
      have s1 : w.heap.size ≤ w1.heap.size := b1.size
      clear o1 b1 HX HV HR
      go_wp2_with fail
      refine (specAddBits_any a v c cv w.heap.size w1.heap.size xs O w1 X1.out O1.out s1 (Nat.le_refl _) HL.out HOl.out).mono ?_
      rintro e w2 h2
      have H2 := Lib.hid (h2.since B1.out)
      obtain ⟨v2, c2, rfl, _⟩ := h2
      go_wp2
      go_ret
      rw [HE.out]
      exact H2.out
end Go.Proofs.Ytamfjmfffpdcfaa
