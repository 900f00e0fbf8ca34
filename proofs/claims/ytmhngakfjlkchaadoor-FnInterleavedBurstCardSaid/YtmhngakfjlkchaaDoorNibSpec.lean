/-
  What the models of EncodeNibble, SyndromeOf, DecodeNibble, EncodeBlocks and DecodeBlocks answer, for every list. Conditions: a list that can be read, a slice's room.
-/
import Derived.Test.YtmhngakfjlkchaaDoorNib4
import Derived.Test.YtmhngakfjlkchaaDoorDraws
namespace Go.Proofs.YtmhngakfjlkchaaDoor
open Go.RowKit

set_option maxHeartbeats 1000000 in
theorem specEncodeNibble_any (a : Option Addr) (c B : Nat) (xs : List Int) (w : World) (hx : Ints .i64 w B a xs) (hl0 : xs.length ≤ maxLen) :
    Calls Tryd.prog 19 #[.slice a xs.length c] w (ListPostC (encOr xs) w) := by
  have hv := specBitsValid_any a c B xs w hx hl0
  clear hl0
  cases hb : bitsOk xs
  · have HE := Lib.hid (encOr_no (xs := xs) (by simp [nibOk, hb]))
    rw [hb] at hv
    have HV := Lib.hid hv
    clear hv hx hb
    go_enter Tryd.func19, Tryd.ntmps19
    go_wp2_with (go_at_call 18; refine HV.out.mono ?_; rintro e w1 ⟨rfl, rfl⟩)
    go_ret
    rw [HE.out]
    exact listPostC_lit (xs := []) (Below.refl _ _) rfl (by simp)
  · rw [hb] at hv
    by_cases hl : xs.length = 4
    · have HE := Lib.hid (encOr_yes (xs := xs) (by simp [nibOk, hb, hl]))
      obtain ⟨b, off, rfl, hbb, hc⟩ := hx (by intro e; rw [e] at hl; simp at hl)
      have c0 := hc 0 (by omega)
      have c1 := hc 1 (by omega)
      have c2 := hc 2 (by omega)
      have c3 := hc 3 (by omega)
      rw [Nat.add_zero] at c0
      rw [hl] at hv ⊢
      have HV := Lib.hid hv
      clear hv hx hb hl hc
      go_enter Tryd.func19, Tryd.ntmps19
      go_wp2_with (go_at_call 18; refine HV.out.mono ?_; rintro e w1 ⟨rfl, rfl⟩)
      go_ret
      rw [HE.out]
      exact listPostC_lit (xs := encW xs) (Below.refl _ _) rfl (by rw [encW_length]; omega)
    · have HE := Lib.hid (encOr_no (xs := xs) (by simp [nibOk, hl]))
      have hne : ((xs.length : Int) != 4) = true := by simp; omega
      have HV := Lib.hid hv
      clear hv hx hl
      go_enter Tryd.func19, Tryd.ntmps19
      go_wp2_with (go_at_call 18; refine HV.out.mono ?_; rintro e w1 ⟨rfl, rfl⟩)
      go_ret
      rw [HE.out]
      exact listPostC_lit (xs := []) (Below.refl _ _) rfl (by simp)

end Go.Proofs.YtmhngakfjlkchaaDoor
