/-
  What SequenceValid and its model answer, for every list. No condition; the model: the length can be.
-/
import Derived.Test.YtckjlonlkckhdaaSeqMath4
import Derived.Test.YtckjlonlkckhdaaBits1
import Derived.Test.YtckjlonlkckhdaaPack
namespace Go.Proofs.Ytckjlonlkckhdaa
open Go.RowKit

theorem valueValid_any (n : Int) (w : World) : Calls Try.prog 47 #[.int .i64 n] w fun e w' => e = .returned (.bool (seqIn n)) ∧ w = w' := by
  by_cases h1 : -1000 ≤ n
  · by_cases h2 : n ≤ 1000
    · go_enter Try.func47, Try.ntmps47
      go_wp2
      go_ret
      exact ⟨ret_bool (by simp [seqIn, h1, h2]), rfl⟩
    · go_enter Try.func47, Try.ntmps47
      go_wp2
      go_ret
      exact ⟨ret_bool (by simp [seqIn, h2]), rfl⟩
  · go_enter Try.func47, Try.ntmps47
    go_wp2
    go_ret
    exact ⟨ret_bool (by simp only [seqIn, decide_eq_false (show ¬ -1000 ≤ n by omega), Bool.false_and]), rfl⟩
set_option maxHeartbeats 1000000 in
theorem seqValid_any (a : Option Addr) (c B : Nat) (xs : List Int) (w : World) (hx : Ints .i64 w B a xs) :
    Calls Try.prog 34 #[.slice a xs.length c] w fun e w' => e = .returned (.bool (seqOk xs)) ∧ w = w' := by
  have HX := Lib.hid hx
  clear hx
  by_cases hl : xs.length ≤ 64
  · have HL := Lib.hid hl
    have hl' : ¬ (64 : Int) < (xs.length : Int) := by omega
    clear hl
    go_enter Try.func34, Try.ntmps34
    go_wp2
    clear hl'
    go_loop [10] (fun i => ∃ k : Nat, k ≤ xs.length ∧ i = .int .i64 k ∧ seqTo xs k) (fun i => xs.length - (intOf i).toNat)
    case atStart => exact ⟨0, Nat.zero_le _, rfl, fun i hi => absurd hi (by omega)⟩
    case round =>
      obtain ⟨k, hk, rfl, hgood⟩ := hrel
      have HG := Lib.hid hgood
      have hk2 : k ≤ 64 := Nat.le_trans hk HL.out
      clear hgood
      by_cases hlt : k < xs.length
      · obtain ⟨b, off, rfl, hb, hc⟩ := HX.out.at_ hlt
        have HI := Lib.hid (fun W => valueValid_any (el xs k) W)
        cases h1 : seqIn (el xs k)
        · rw [h1] at HI
          have HE : Hid (seqOk xs = false) := seqOk_bad hlt h1
          clear h1
          go_wp2_with (go_at_call 47; ((with_reducible refine (HI.out _).mono ?_); rintro e w1 ⟨rfl, rfl⟩))
          go_ret
          exact ⟨ret_bool HE.out.symm, rfl⟩
        · rw [h1] at HI
          have HE : Hid (seqTo xs (k + 1)) := seqTo_next HG.out h1
          clear h1
          go_wp2_with (go_at_call 47; ((with_reducible refine (HI.out _).mono ?_); rintro e w1 ⟨rfl, rfl⟩))
          go_round
          case rel => exact ⟨k + 1, by omega, by go_num, HE.out⟩
          case measure => simp [intOf]; omega
      · obtain rfl : xs.length = k := by omega
        have HE : Hid (seqOk xs = true) := seqOk_good HG.out HL.out
        go_wp2
        go_ret
        exact ⟨ret_bool HE.out.symm, rfl⟩
  · have HE : Hid (seqOk xs = false) := seqOk_long (by omega)
    have hl' : (64 : Int) < (xs.length : Int) := by omega
    clear hl
    go_enter Try.func34, Try.ntmps34
    go_wp2
    go_ret
    exact ⟨ret_bool HE.out.symm, rfl⟩
/-- The test, its answer known. -/
theorem seqValid_is (a : Option Addr) (c B : Nat) (xs : List Int) (w : World) (b : Bool) (hx : Ints .i64 w B a xs) (h : seqOk xs = b) :
    Calls Try.prog 34 #[.slice a xs.length c] w fun e w' => e = .returned (.bool b) ∧ w = w' := by
  subst h; exact seqValid_any a c B xs w hx
theorem sequenceValid_any (a : Option Addr) (c B : Nat) (xs : List Int) (w : World) (hx : Ints .i64 w B a xs) :
    Calls Try.prog 24 #[.slice a xs.length c] w fun e w' => e = .returned (.bool (seqOk xs)) ∧ w = w' := by
  have HV := Lib.hid (seqValid_any a c B xs w hx)
  clear hx
  generalize seqOk xs = ok at *
  go_enter Try.func24, Try.ntmps24
  go_wp2_with (go_at_call 34; ((with_reducible refine HV.out.mono ?_); rintro e w1 ⟨rfl, rfl⟩))
  go_ret
  exact ⟨rfl, rfl⟩
set_option maxHeartbeats 1000000 in
theorem specSequenceValid_any (a : Option Addr) (c B : Nat) (xs : List Int) (w : World) (hx : Ints .i64 w B a xs) (hl : xs.length ≤ maxLen) :
    Calls Try.prog 36 #[.slice a xs.length c] w fun e w' => e = .returned (.bool (seqOk xs)) ∧ w = w' := by
  have HX := Lib.hid hx
  have HL : Hid (xs.length ≤ 9223372036854775807) := hl
  clear hx hl
  go_enter Try.func36, Try.ntmps36
  go_wp2
  go_loop [3] (fun i => ∃ k : Nat, k ≤ xs.length ∧ i = .int .i64 k ∧ seqTo xs k) (fun i => xs.length - (intOf i).toNat)
  case atStart => exact ⟨0, Nat.zero_le _, rfl, fun i hi => absurd hi (by omega)⟩
  case round =>
    obtain ⟨k, hk, rfl, hgood⟩ := hrel
    have HG := Lib.hid hgood
    clear hgood
    by_cases hlt : k < xs.length
    · obtain ⟨b, off, rfl, hb, hc⟩ := HX.out.at_ hlt
      have HI := Lib.hid (fun W => l1In_any (el xs k) (-1000) 1000 W)
      have hk2 : k < 9223372036854775807 := Nat.lt_of_lt_of_le hlt HL.out
      cases h1 : seqIn (el xs k)
      · rw [show (decide (-1000 ≤ el xs k) && decide (el xs k ≤ 1000)) = false from h1] at HI
        have HE : Hid (seqOk xs = false) := seqOk_bad hlt h1
        clear h1
        go_wp2_with (go_at_call 42; ((with_reducible refine (HI.out _).mono ?_); rintro e w1 ⟨rfl, rfl⟩))
        go_ret
        exact ⟨ret_bool HE.out.symm, rfl⟩
      · rw [show (decide (-1000 ≤ el xs k) && decide (el xs k ≤ 1000)) = true from h1] at HI
        have HE : Hid (seqTo xs (k + 1)) := seqTo_next HG.out h1
        clear h1
        go_wp2_with (go_at_call 42; ((with_reducible refine (HI.out _).mono ?_); rintro e w1 ⟨rfl, rfl⟩))
        go_round
        case rel => exact ⟨k + 1, by omega, by go_num, HE.out⟩
        case measure => simp [intOf]; omega
    · obtain rfl : xs.length = k := by omega
      have HE : Hid (decide ((xs.length : Int) ≤ 64) = seqOk xs) := by
        show decide ((xs.length : Int) ≤ 64) = seqOk xs
        by_cases hl : xs.length ≤ 64
        · rw [seqOk_good HG.out hl, decide_eq_true_iff]; omega
        · rw [seqOk_long (by omega), decide_eq_false_iff_not]; omega
      go_wp2
      go_ret
      exact ⟨ret_bool HE.out, rfl⟩
theorem specSeqValid_is (a : Option Addr) (c B : Nat) (xs : List Int) (w : World) (b : Bool) (hx : Ints .i64 w B a xs) (hl : xs.length ≤ maxLen) (h : seqOk xs = b) :
    Calls Try.prog 36 #[.slice a xs.length c] w fun e w' => e = .returned (.bool b) ∧ w = w' := by
  subst h; exact specSequenceValid_any a c B xs w hx hl
end Go.Proofs.Ytckjlonlkckhdaa
