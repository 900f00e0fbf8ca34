/-
  What the models of EncodeNibble, SyndromeOf, DecodeNibble, EncodeBlocks and DecodeBlocks answer, for every list. Conditions: a list that can be read, a slice's room.
-/
import Derived.Test.YtflplihhakepfaaDoorNib4
import Derived.Test.YtflplihhakepfaaDoorDraws
namespace Go.Proofs.YtflplihhakepfaaDoor
open Go.RowKit

set_option maxHeartbeats 1000000 in
theorem specEncodeNibble_any (a : Option Addr) (c B : Nat) (xs : List Int) (w : World) (hx : Ints .i64 w B a xs) (hl0 : xs.length ≤ maxLen) :
    Calls Tryd.prog 13 #[.slice a xs.length c] w (ListPostC (encOr xs) w) := by
  have hv := specBitsValid_any a c B xs w hx hl0
  clear hl0
  cases hb : bitsOk xs
  · have HE := Lib.hid (encOr_no (xs := xs) (by simp [nibOk, hb]))
    rw [hb] at hv
    have HV := Lib.hid hv
    clear hv hx hb
    go_enter Tryd.func13, Tryd.ntmps13
    go_wp2_with (go_at_call 35; refine HV.out.mono ?_; rintro e w1 ⟨rfl, rfl⟩)
    go_ret
    rw [HE.out]
    exact listPostC_lit (xs := []) (Below.refl _ _) rfl (by simp)
  · rw [hb] at hv
    by_cases hl : xs.length = 4
    · have HE := Lib.hid (encOr_yes (xs := xs) (by simp [nibOk, hb, hl]))
      obtain ⟨b, off, rfl, hbb, hc⟩ := hx (by intro e; rw [e] at hl; simp at hl)
      have c0 := hc 0 (by omega)
      have c1 := hc 1 (by omega)
      have c2 := hc 2 (by omega)
      have c3 := hc 3 (by omega)
      rw [Nat.add_zero] at c0
      rw [hl] at hv ⊢
      have HV := Lib.hid hv
      clear hv hx hb hl hc
      go_enter Tryd.func13, Tryd.ntmps13
      go_wp2_with (go_at_call 35; refine HV.out.mono ?_; rintro e w1 ⟨rfl, rfl⟩)
      go_ret
      rw [HE.out]
      exact listPostC_lit (xs := encW xs) (Below.refl _ _) rfl (by rw [encW_length]; omega)
    · have HE := Lib.hid (encOr_no (xs := xs) (by simp [nibOk, hl]))
      have hne : ((xs.length : Int) != 4) = true := by simp; omega
      have HV := Lib.hid hv
      clear hv hx hl
      go_enter Tryd.func13, Tryd.ntmps13
      go_wp2_with (go_at_call 35; refine HV.out.mono ?_; rintro e w1 ⟨rfl, rfl⟩)
      go_ret
      rw [HE.out]
      exact listPostC_lit (xs := []) (Below.refl _ _) rfl (by simp)

set_option maxHeartbeats 400000 in
theorem specSyndromeOf_any (a : Option Addr) (c B : Nat) (xs : List Int) (w : World) (hx : Ints .i64 w B a xs) (hl0 : xs.length ≤ maxLen) :
    Calls Tryd.prog 20 #[.slice a xs.length c] w fun e w' => e = .returned (.int .i64 (synOr xs)) ∧ w = w' := by
  have hv := specBitsValid_any a c B xs w hx hl0
  clear hl0
  cases hb : bitsOk xs
  · have HE := Lib.hid (show synOr xs = -1 by simp [synOr, wordOk, hb])
    rw [hb] at hv
    have HV := Lib.hid hv
    clear hv hx hb
    go_enter Tryd.func20, Tryd.ntmps20
    go_wp2_with (go_at_call 35; refine HV.out.mono ?_; rintro e w1 ⟨rfl, rfl⟩)
    go_ret
    exact ⟨ret_int HE.out.symm, rfl⟩
  · rw [hb] at hv
    by_cases hl : xs.length = 7
    · have hok : wordOk xs = true := by simp [wordOk, hb, hl]
      have HE := Lib.hid (show synOr xs = (synK xs 7 : Int) by rw [synOr, hok]; rfl)
      have HX := Lib.hid hx
      have HL := Lib.hid hl
      rw [hl] at hv ⊢
      have HV := Lib.hid hv
      clear hv hx hb hl hok
      go_enter Tryd.func20, Tryd.ntmps20
      go_wp2_with (go_at_call 35; refine HV.out.mono ?_; rintro e w1 ⟨rfl, rfl⟩)
      go_loop [3, 4] (fun s i => ∃ k m : Nat, k ≤ 7 ∧ i = .int .i64 k ∧ s = .int .i64 m ∧ m < 8 ∧ m = synK xs k) (fun _ i => 7 - (intOf i).toNat)
      case atStart => exact ⟨0, 0, by omega, rfl, rfl, by omega, rfl⟩
      case round =>
        obtain ⟨k, m, hk, rfl, rfl, hm, hmm⟩ := hrel
        have HM := Lib.hid hmm
        clear hmm
        by_cases hlt : k < 7
        · obtain ⟨b, off, rfl, hbb, hc⟩ := HX.out.at_ (i := k) (by rw [HL.out]; exact hlt)
          have hxor : bits .xor .i64 (m : Int) ((k : Int) + 1) = ((m ^^^ (k + 1) : Nat) : Int) := i64_xor m (k + 1) (by omega) (by omega)
          obtain ⟨q, hq⟩ : ∃ q, q = m ^^^ (k + 1) := ⟨_, rfl⟩
          rw [← hq] at hxor
          have hq8 : q < 8 := by rw [hq]; exact Nat.xor_lt_two_pow (n := 3) hm (by omega)
          by_cases h1 : el xs k = 1
          · have HQ := Lib.hid (show q = synK xs (k + 1) by rw [synK, if_pos h1, hq, HM.out])
            have heq : (el xs k == 1) = true := by simp [h1]
            clear h1 hq
            go_wp2
            go_round
            case rel => exact ⟨k + 1, q, by omega, by go_num, rfl, hq8, HQ.out⟩
            case measure => simp [intOf]; omega
          · have HQ := Lib.hid (show m = synK xs (k + 1) by rw [synK, if_neg h1, HM.out])
            have heq : (el xs k == 1) = false := by simp [h1]
            clear h1 hq
            go_wp2
            go_round
            case rel => exact ⟨k + 1, m, by omega, by go_num, rfl, hm, HQ.out⟩
            case measure => simp [intOf]; omega
        · obtain rfl : k = 7 := by omega
          go_wp2
          go_ret
          exact ⟨ret_int (by rw [HE.out, HM.out]), rfl⟩
    · have HE := Lib.hid (show synOr xs = -1 by simp [synOr, wordOk, hl])
      have hne : ((xs.length : Int) != 7) = true := by simp; omega
      have HV := Lib.hid hv
      clear hv hx hl
      go_enter Tryd.func20, Tryd.ntmps20
      go_wp2_with (go_at_call 35; refine HV.out.mono ?_; rintro e w1 ⟨rfl, rfl⟩)
      go_ret
      exact ⟨ret_int HE.out.symm, rfl⟩
end Go.Proofs.YtflplihhakepfaaDoor
