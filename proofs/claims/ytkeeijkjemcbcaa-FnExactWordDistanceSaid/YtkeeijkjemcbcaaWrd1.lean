/-
  Lists of symbols; what the test of symbols, the quotient, the value of an error and the search for two locators answer. Conditions: a list that can be read; the program's two tables of the field lie in their variables; numbers below 16.
-/
import Derived.Test.YtkeeijkjemcbcaaWrdMath
import Derived.Test.YtkeeijkjemcbcaaFld2
import Derived.Test.YtkeeijkjemcbcaaFldSpec
namespace Go.Proofs.Ytkeeijkjemcbcaa
open Go.RowKit

/-- The list of the first n values of a word. -/
def ofN (c : Nat → Nat) (n : Nat) : List Int := (List.range n).map fun i => (c i : Int)
theorem ofN_length (c : Nat → Nat) (n : Nat) : (ofN c n).length = n := by simp [ofN]
theorem ofN_el {c : Nat → Nat} {n i : Nat} (h : i < n) : el (ofN c n) i = (c i : Int) := by simp [ofN, el, h]
theorem co_ofN {c : Nat → Nat} {n i : Nat} (h : i < n) : co (ofN c n) i = c i := by unfold co; rw [ofN_el h]; rfl
theorem ofN_congr {c d : Nat → Nat} {n : Nat} (h : ∀ i, i < n → c i = d i) : ofN c n = ofN d n := List.map_congr_left fun i hi => by rw [h i (List.mem_range.1 hi)]
theorem ofN_inj {c d : Nat → Nat} {n : Nat} (h : ofN c n = ofN d n) : ∀ i, i < n → c i = d i := fun i hi => by
  have h1 := co_ofN (c := c) hi
  rw [h, co_ofN hi] at h1
  exact h1.symm
theorem list_el {xs ys : List Int} (hl : xs.length = ys.length) (h : ∀ i, i < xs.length → el xs i = el ys i) : xs = ys := List.ext_getElem hl fun i h1 h2 => by
  have := h i h1
  rwa [el_lt h1, el_lt h2] at this
/-- A list of n elements of the field. -/
def wok (n : Nat) (xs : List Int) : Bool := decide (xs.length = n) && xs.all elOk
theorem wok_parts {n : Nat} {xs : List Int} (h : wok n xs = true) : xs.length = n ∧ xs.all elOk = true := by
  simpa only [wok, Bool.and_eq_true, decide_eq_true_eq] using h
theorem wok_len {n : Nat} {xs : List Int} (h : xs.length ≠ n) : wok n xs = false := by simp [wok, h]
theorem wok_bad {n : Nat} {xs : List Int} (h : xs.all elOk = false) : wok n xs = false := by simp [wok, h]
theorem wok_yes {n : Nat} {xs : List Int} (h : xs.length = n) (h2 : xs.all elOk = true) : wok n xs = true := by simp [wok, h, h2]
theorem co_lt {xs : List Int} (h : xs.all elOk = true) : Lt16 (co xs) := fun i => by
  by_cases hi : i < xs.length
  · exact (co_el h hi).2
  · have : el xs i = 0 := by unfold el; rw [List.getD_eq_getElem?_getD, List.getElem?_eq_none (by omega)]; rfl
    unfold co; rw [this]; exact Nat.zero_lt_succ _
theorem wok_lt {n : Nat} {xs : List Int} (h : wok n xs = true) : Lt16 (co xs) := co_lt (wok_parts h).2
theorem wok_eq {n : Nat} {xs : List Int} (h : wok n xs = true) : xs = ofN (co xs) n := by
  obtain ⟨h1, h2⟩ := wok_parts h
  refine list_el (by rw [ofN_length, h1]) fun i hi => ?_
  rw [ofN_el (by omega), (co_el h2 hi).1]
theorem wok_ofN {c : Nat → Nat} (hc : Lt16 c) (n : Nat) : wok n (ofN c n) = true := by
  refine wok_yes (ofN_length c n) (List.all_eq_true.2 fun x hx => ?_)
  obtain ⟨i, _, rfl⟩ := List.mem_map.1 hx
  exact elOk_of (hc i)

set_option maxHeartbeats 400000 in
theorem symbolsValid_any (a : Option Addr) (c B n : Nat) (xs : List Int) (w : World) (hx : Ints .i64 w B a xs) (hn : n ≤ 20) :
    Calls Try.prog 9 #[.slice a xs.length c, .int .i64 n] w fun e w' => e = .returned (.bool (wok n xs)) ∧ w = w' := by
  by_cases hl : xs.length = n
  · have hne : ((xs.length : Int) != (n : Int)) = false := by simp [hl]
    have HL := Lib.hid hl
    have HX := Lib.hid hx
    have hlen : xs.length ≤ 20 := by omega
    clear hl hx
    go_enter Try.func9, Try.ntmps9
    go_wp2
    clear hne
    go_loop [13] (fun i => ∃ k : Nat, k ≤ xs.length ∧ i = .int .i64 k ∧ (xs.take k).all elOk = true) (fun i => xs.length - (intOf i).toNat)
    case atStart => exact ⟨0, Nat.zero_le _, rfl, by simp⟩
    case round =>
      obtain ⟨k, hk, rfl, hall⟩ := hrel
      have HA := Lib.hid hall
      clear hall
      by_cases hlt : k < xs.length
      · obtain ⟨b, off, rfl, hb, hc⟩ := HX.out.at_ hlt
        cases he : elOk (el xs k)
        · have HI := Lib.hid (isElement_is (el xs k) w false he)
          have HE := Lib.hid (wok_bad (n := n) (all_false elOk xs k hlt he))
          clear he
          go_wp2_with (go_at_call 11; refine HI.out.mono ?_; rintro e w' ⟨rfl, rfl⟩)
          go_ret
          exact ⟨ret_bool HE.out.symm, rfl⟩
        · have HI := Lib.hid (isElement_is (el xs k) w true he)
          have HN := Lib.hid (all_take_succ elOk xs k hlt HA.out he)
          clear he
          go_wp2_with (go_at_call 11; refine HI.out.mono ?_; rintro e w' ⟨rfl, rfl⟩)
          go_round
          case rel => exact ⟨k + 1, by omega, by go_num, HN.out⟩
          case measure => simp [intOf]; omega
      · obtain rfl : xs.length = k := by omega
        have HE := Lib.hid (wok_yes HL.out (by have := HA.out; rwa [List.take_length] at this))
        go_wp2
        go_ret
        exact ⟨ret_bool HE.out.symm, rfl⟩
  · have hne : ((xs.length : Int) != (n : Int)) = true := by simp; omega
    have HE := Lib.hid (wok_len hl)
    clear hl hx
    go_enter Try.func9, Try.ntmps9
    go_wp2
    go_ret
    exact ⟨ret_bool HE.out.symm, rfl⟩
theorem l6Symbols_any (a : Option Addr) (c B n : Nat) (xs : List Int) (w : World) (hx : Ints .i64 w B a xs) (hl : xs.length ≤ 1048576) :
    Calls Try.prog 8 #[.slice a xs.length c, .int .i64 n] w fun e w' => e = .returned (.bool (wok n xs)) ∧ w = w' := by
  have HX := Lib.hid hx
  clear hx
  go_enter Try.func8, Try.ntmps8
  go_wp2
  go_loop [5] (fun i => ∃ k : Nat, k ≤ xs.length ∧ i = .int .i64 k ∧ (xs.take k).all elOk = true) (fun i => xs.length - (intOf i).toNat)
  case atStart => exact ⟨0, Nat.zero_le _, rfl, by simp⟩
  case round =>
    obtain ⟨k, hk, rfl, hall⟩ := hrel
    have HA := Lib.hid hall
    clear hall
    by_cases hlt : k < xs.length
    · obtain ⟨b, off, rfl, hb, hc⟩ := HX.out.at_ hlt
      cases he : elOk (el xs k)
      · have HI := Lib.hid (l1In_el (el xs k) w false he)
        have HE := Lib.hid (wok_bad (n := n) (all_false elOk xs k hlt he))
        clear he
        go_wp2_with (go_at_call 10; refine HI.out.mono ?_; rintro e w' ⟨rfl, rfl⟩)
        go_ret
        exact ⟨ret_bool HE.out.symm, rfl⟩
      · have HI := Lib.hid (l1In_el (el xs k) w true he)
        have HN := Lib.hid (all_take_succ elOk xs k hlt HA.out he)
        clear he
        go_wp2_with (go_at_call 10; refine HI.out.mono ?_; rintro e w' ⟨rfl, rfl⟩)
        go_round
        case rel => exact ⟨k + 1, by omega, by go_num, HN.out⟩
        case measure => simp [intOf]; omega
    · obtain rfl : xs.length = k := by omega
      have HE := Lib.hid (show ((xs.length : Int) == (n : Int)) = wok n xs by
        have h := HA.out
        rw [List.take_length] at h
        by_cases hl : xs.length = n
        · rw [wok_yes hl h]; simp [hl]
        · rw [wok_len hl, beq_eq_false_iff_ne]; omega)
      go_wp2
      go_ret
      exact ⟨ret_bool HE.out, rfl⟩

end Go.Proofs.Ytkeeijkjemcbcaa
