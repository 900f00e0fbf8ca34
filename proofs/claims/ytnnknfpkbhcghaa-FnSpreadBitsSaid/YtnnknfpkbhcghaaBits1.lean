/-
  What the small functions of chapter 1 and of its model answer. No condition but that a list is no longer than a list can be.
-/
import Derived.Test.YtnnknfpkbhcghaaBase
namespace Go.Proofs.Ytnnknfpkbhcghaa
open Go.RowKit

theorem l1In_any (n lo hi : Int) (w : World) :
    Calls Try.prog 40 #[.int .i64 n, .int .i64 lo, .int .i64 hi] w fun e w' => e = .returned (.bool (decide (lo ≤ n) && decide (n ≤ hi))) ∧ w = w' := by
  by_cases h1 : lo ≤ n <;> by_cases h2 : n ≤ hi
  all_goals
    go_enter Try.func40, Try.ntmps40
    go_wp2
    go_ret
    exact ⟨by simp [*], rfl⟩

/-- The numbers 0 and 1. -/
def isBit (n : Int) : Bool := n == 0 || n == 1
def bitsOk (xs : List Int) : Bool := decide (xs.length ≤ 1024) && xs.all isBit
theorem isBit_in (n : Int) : (decide (0 ≤ n) && decide (n ≤ 1)) = isBit n := by
  unfold isBit; rw [Bool.eq_iff_iff]; simp; omega
theorem l1In_bit (n : Int) (w : World) (b : Bool) (h : isBit n = b) :
    Calls Try.prog 40 #[.int .i64 n, .int .i64 0, .int .i64 1] w fun e w' => e = .returned (.bool b) ∧ w = w' := by
  subst h; rw [← isBit_in]; exact l1In_any n 0 1 w
theorem all_take_succ (p : Int → Bool) (xs : List Int) (k : Nat) (hk : k < xs.length) (h : (xs.take k).all p = true) (h1 : p (el xs k) = true) : (xs.take (k + 1)).all p = true := by
  rw [take_el hk, List.all_append, h]
  simpa using h1
theorem all_false (p : Int → Bool) (xs : List Int) (k : Nat) (hk : k < xs.length) (h1 : p (el xs k) = false) : xs.all p = false := by
  rw [List.all_eq_false]
  exact ⟨_, el_mem hk, by simp [h1]⟩

set_option maxHeartbeats 400000 in
theorem specBitsValid_any (a : Option Addr) (c B : Nat) (xs : List Int) (w : World) (hx : Ints .i64 w B a xs) (hl : xs.length ≤ maxLen) :
    Calls Try.prog 47 #[.slice a xs.length c] w fun e w' => e = .returned (.bool (bitsOk xs)) ∧ w = w' := by
  unfold maxLen at hl
  go_enter Try.func47, Try.ntmps47
  go_wp2
  go_loop [3] (fun i => ∃ k : Nat, k ≤ xs.length ∧ i = .int .i64 k ∧ (xs.take k).all isBit = true) (fun i => xs.length - (intOf i).toNat)
  case atStart => exact ⟨0, Nat.zero_le _, rfl, by simp⟩
  case round =>
    obtain ⟨k, hk, rfl, hall⟩ := hrel
    have HA := Lib.hid hall
    clear hall
    by_cases hlt : k < xs.length
    · obtain ⟨b, off, rfl, hb, hc⟩ := hx.at_ hlt
      clear hx
      cases h1 : isBit (el xs k)
      · have H1 := Lib.hid h1
        have hz := all_false isBit xs k hlt h1
        have HZ := Lib.hid hz
        clear h1 hz
        go_wp2_with (go_at_call 40; refine (l1In_bit _ _ false ?_).mono ?_; rotate_left; rintro e w' ⟨rfl, rfl⟩)
        · go_ret
          exact ⟨ret_bool (by simp [bitsOk, HZ.out]), rfl⟩
        · exact H1.out
      · have H1 := Lib.hid h1
        clear h1
        go_wp2_with (go_at_call 40; refine (l1In_bit _ _ true ?_).mono ?_; rotate_left; rintro e w' ⟨rfl, rfl⟩)
        · go_round
          case rel => exact ⟨k + 1, by omega, by go_num, all_take_succ _ _ _ hlt HA.out H1.out⟩
          case measure => simp [intOf]; omega
        · exact H1.out
    · have hz : xs.take k = xs := List.take_of_length_le (by omega)
      have HZ := Lib.hid hz
      clear hz
      go_wp2
      go_ret
      exact ⟨ret_bool (by have h := HA.out; rw [HZ.out] at h; simp [bitsOk, h]; omega), rfl⟩

end Go.Proofs.Ytnnknfpkbhcghaa
