/-
  What the powers modulo 257, the root of the transform, the inverses and the models of the first two answer; the model's test of a list. Conditions: bases 0 to 256, exponents up to 1000; a list that can be read.
-/
import Derived.Test.YtkigjnjbjbnidaaTrMath3
import Derived.Test.YtkigjnjbjbnidaaBits1
import Derived.Test.YtkigjnjbjbnidaaPack
namespace Go.Proofs.Ytkigjnjbjbnidaa
open Go.RowKit

/-- A power as a loop makes it. -/
def pwF (a : Int) : Nat → Int
  | 0 => 1
  | n + 1 => pwF a n * a % 257
theorem pwF_in (a : Int) : ∀ n, 0 ≤ pwF a n ∧ pwF a n < 257
  | 0 => ⟨by show (0 : Int) ≤ 1; decide, by show (1 : Int) < 257; decide⟩
  | _ + 1 => ⟨Int.emod_nonneg _ (by decide), Int.emod_lt_of_pos _ (by decide)⟩
theorem pwF_tw (c : Nat) : ∀ n, pwF (tw c) n = tw (c * n)
  | 0 => rfl
  | n + 1 => by
    show pwF (tw c) n * tw c % 257 = _
    rw [pwF_tw c n, tw_next, Nat.mul_succ]
theorem tw_one_is : tw 1 = 2 := by decide
theorem pwF_two (n : Nat) : pwF 2 n = tw n := by
  have h := pwF_tw 1 n
  rw [tw_one_is, Nat.one_mul] at h
  exact h
/-- Products of two numbers of the transform. -/
theorem mm_in {p a : Int} (hp : 0 ≤ p ∧ p < 257) (ha : 0 ≤ a ∧ a < 257) : 0 ≤ p * a ∧ p * a ≤ 65536 := by
  have h1 : p * a ≤ 256 * 256 := Int.mul_le_mul (by omega) (by omega) ha.1 (by decide)
  exact ⟨Int.mul_nonneg hp.1 ha.1, h1⟩
theorem wrapT {n : Int} (h : -1000000000000 ≤ n ∧ n ≤ 1000000000000) : IntKind.i64.wrap n = n := by rw [IntKind.wrap_i64]; omega
theorem wrapT' {n : Int} (h : -1000000000000 ≤ n ∧ n ≤ 1000000000000) : wrap64 n = n := by unfold wrap64; omega
theorem tmodT {n : Int} (h : 0 ≤ n) : n.tmod 257 = n % 257 := Int.tmod_eq_emod_of_nonneg h
/-- One product, as a walk wants it. -/
theorem mm_nums {p a : Int} (hp : 0 ≤ p ∧ p < 257) (ha : 0 ≤ a ∧ a < 257) : ∃ q v : Int, q = p * a ∧ IntKind.i64.wrap q = q ∧ wrap64 q = q ∧ q.tmod 257 = v ∧ v = p * a % 257 ∧ (0 ≤ v ∧ v < 257) := by
  have h := mm_in hp ha
  exact ⟨_, _, rfl, wrapT (by omega), wrapT' (by omega), tmodT h.1, rfl, Int.emod_nonneg _ (by decide), Int.emod_lt_of_pos _ (by decide)⟩

set_option maxHeartbeats 1000000 in
theorem residuePower_any (a : Int) (n : Nat) (w : World) (ha : 0 ≤ a ∧ a < 257) (hn : n ≤ 1000) :
    Calls Try.prog 25 #[.int .i64 a, .int .i64 n] w fun e w' => e = .returned (.int .i64 (pwF a n)) ∧ w = w' := by
  have HA := Lib.hid ha
  have HN := Lib.hid hn
  clear ha hn
  go_enter Try.func25, Try.ntmps25
  go_wp2
  go_loop [5, 7] (fun s i => ∃ k : Nat, k ≤ n ∧ i = .int .i64 k ∧ s = .int .i64 (pwF a k)) (fun _ i => n - (intOf i).toNat)
  case atStart => exact ⟨0, Nat.zero_le _, rfl, rfl⟩
  case round =>
    obtain ⟨k, hk, rfl, rfl⟩ := hrel
    have hk2 : k ≤ 1000 := Nat.le_trans hk HN.out
    by_cases hlt : k < n
    · have hp := pwF_in a k
      have HV := Lib.hid (show pwF a (k + 1) = pwF a k * a % 257 from rfl)
      generalize pwF a k = p at *
      obtain ⟨q, v, hq, r1, r1', r2, hv, _⟩ := mm_nums hp HA.out
      rw [← hv] at HV
      rw [hq] at r1 r1' r2
      clear hq hv
      go_wp2
      go_round
      case rel => exact ⟨k + 1, by omega, by go_num, by rw [HV.out]⟩
      case measure => simp [intOf]; omega
    · obtain rfl : k = n := by omega
      go_wp2
      go_ret
      exact ⟨rfl, rfl⟩
theorem power_is {a v m : Int} {n : Nat} (w : World) (ha : 0 ≤ a ∧ a < 257) (hn : n ≤ 1000) (hm : (n : Int) = m) (h : pwF a n = v) :
    Calls Try.prog 25 #[.int .i64 a, .int .i64 m] w fun e w' => e = .returned (.int .i64 v) ∧ w = w' := by
  subst h hm; exact residuePower_any a n w ha hn
set_option maxHeartbeats 1000000 in
theorem l11Power_any (a : Int) (n : Nat) (w : World) (ha : 0 ≤ a ∧ a < 257) (hn : n ≤ 1000) :
    Calls Try.prog 26 #[.int .i64 a, .int .i64 n] w fun e w' => e = .returned (.int .i64 (pwF a n)) ∧ w = w' := by
  have HA := Lib.hid ha
  have HN := Lib.hid hn
  clear ha hn
  go_enter Try.func26, Try.ntmps26
  go_wp2
  go_loop [5, 6] (fun s i => ∃ k : Nat, k ≤ n ∧ i = .int .i64 k ∧ s = .int .i64 (pwF a k)) (fun _ i => n - (intOf i).toNat)
  case atStart => exact ⟨0, Nat.zero_le _, rfl, rfl⟩
  case round =>
    obtain ⟨k, hk, rfl, rfl⟩ := hrel
    have hk2 : k ≤ 1000 := Nat.le_trans hk HN.out
    by_cases hlt : k < n
    · have hp := pwF_in a k
      have HV := Lib.hid (show pwF a (k + 1) = pwF a k * a % 257 from rfl)
      generalize pwF a k = p at *
      obtain ⟨q, v, hq, r1, r1', r2, hv, _⟩ := mm_nums hp HA.out
      rw [← hv] at HV
      rw [hq] at r1 r1' r2
      clear hq hv
      go_wp2
      go_round
      case rel => exact ⟨k + 1, by omega, by go_num, by rw [HV.out]⟩
      case measure => simp [intOf]; omega
    · obtain rfl : k = n := by omega
      go_wp2
      go_ret
      exact ⟨rfl, rfl⟩
theorem l11Power_is {a v m : Int} {n : Nat} (w : World) (ha : 0 ≤ a ∧ a < 257) (hn : n ≤ 1000) (hm : (n : Int) = m) (h : pwF a n = v) :
    Calls Try.prog 26 #[.int .i64 a, .int .i64 m] w fun e w' => e = .returned (.int .i64 v) ∧ w = w' := by
  subst h hm; exact l11Power_any a n w ha hn

theorem pw16 : pwF 2 16 = 1 := by decide +kernel
theorem pw8 : pwF 2 8 = 256 := by decide +kernel
theorem pw15 : pwF 2 15 = 129 := by decide +kernel
theorem pwInv2 : pwF 2 255 = 129 := by decide +kernel
theorem pwInv16 : pwF 16 255 = 241 := by decide +kernel
/-- Numbers of the transform. -/
theorem res_in {a : Int} (h : 0 ≤ a := by decide) (h' : a < 257 := by decide) : 0 ≤ a ∧ a < 257 := ⟨h, h'⟩

set_option maxHeartbeats 1000000 in
theorem transformRoot_any (w : World) : Calls Try.prog 11 #[] w fun e w' => e = .returned (.int .i64 2) ∧ w = w' := by
  have H1 := Lib.hid (power_is (a := 2) (m := 16) (n := 16) w res_in (by decide) rfl pw16)
  have H2 := Lib.hid (power_is (a := 2) (m := 8) (n := 8) w res_in (by decide) rfl pw8)
  go_enter Try.func11, Try.ntmps11
  go_wp2
  refine wp_loop_rounds 1 ?_
  rw [rounds_succ]
  go_wp2_with (go_at_call 25; (first | ((with_reducible refine H1.out.mono ?_); rintro e w1 ⟨rfl, rfl⟩) | ((with_reducible refine H2.out.mono ?_); rintro e w1 ⟨rfl, rfl⟩)))
  go_ret
  exact ⟨rfl, rfl⟩
set_option maxHeartbeats 1000000 in
theorem specTransformRoot_any (w : World) : Calls Try.prog 12 #[] w fun e w' => e = .returned (.int .i64 2) ∧ w = w' := by
  have H1 := Lib.hid (l11Power_is (a := 2) (m := 16) (n := 16) w res_in (by decide) rfl pw16)
  have H2 := Lib.hid (l11Power_is (a := 2) (m := 8) (n := 8) w res_in (by decide) rfl pw8)
  go_enter Try.func12, Try.ntmps12
  go_wp2
  refine wp_loop_rounds 1 ?_
  rw [rounds_succ]
  go_wp2_with (go_at_call 26; (first | ((with_reducible refine H1.out.mono ?_); rintro e w1 ⟨rfl, rfl⟩) | ((with_reducible refine H2.out.mono ?_); rintro e w1 ⟨rfl, rfl⟩)))
  go_ret
  exact ⟨rfl, rfl⟩
theorem residueInverse_is {a v : Int} (w : World) (ha : 0 ≤ a ∧ a < 257) (h : pwF a 255 = v) : Calls Try.prog 46 #[.int .i64 a] w fun e w' => e = .returned (.int .i64 v) ∧ w = w' := by
  have H1 := Lib.hid (power_is (a := a) (m := 255) (n := 255) w ha (by decide) rfl h)
  clear h ha
  go_enter Try.func46, Try.ntmps46
  go_wp2_with (go_at_call 25; ((with_reducible refine H1.out.mono ?_); rintro e w1 ⟨rfl, rfl⟩))
  go_ret
  exact ⟨rfl, rfl⟩

set_option maxHeartbeats 1000000 in
theorem l11Valid_any (a : Option Addr) (c B : Nat) (xs : List Int) (w : World) (hx : Ints .i64 w B a xs) (hl : xs.length ≤ maxLen) :
    Calls Try.prog 33 #[.slice a xs.length c] w fun e w' => e = .returned (.bool (ptOk xs)) ∧ w = w' := by
  have HX := Lib.hid hx
  have HL : Hid (xs.length ≤ 9223372036854775807) := hl
  clear hx hl
  go_enter Try.func33, Try.ntmps33
  go_wp2
  go_loop [3] (fun i => ∃ k : Nat, k ≤ xs.length ∧ i = .int .i64 k ∧ ptTo xs k) (fun i => xs.length - (intOf i).toNat)
  case atStart => exact ⟨0, Nat.zero_le _, rfl, fun i hi => absurd hi (by omega)⟩
  case round =>
    obtain ⟨k, hk, rfl, hgood⟩ := hrel
    have HG := Lib.hid hgood
    clear hgood
    by_cases hlt : k < xs.length
    · obtain ⟨b, off, rfl, hb, hc⟩ := HX.out.at_ hlt
      have HI := Lib.hid (fun W => l1In_any (el xs k) 0 256 W)
      have hk2 : k < 9223372036854775807 := Nat.lt_of_lt_of_le hlt HL.out
      cases h1 : pt (el xs k)
      · rw [show (decide (0 ≤ el xs k) && decide (el xs k ≤ 256)) = false from h1] at HI
        have HE : Hid (ptOk xs = false) := ptOk_bad hlt h1
        clear h1
        go_wp2_with (go_at_call 45; ((with_reducible refine (HI.out _).mono ?_); rintro e w1 ⟨rfl, rfl⟩))
        go_ret
        exact ⟨ret_bool HE.out.symm, rfl⟩
      · rw [show (decide (0 ≤ el xs k) && decide (el xs k ≤ 256)) = true from h1] at HI
        have HE : Hid (ptTo xs (k + 1)) := ptTo_next HG.out h1
        clear h1
        go_wp2_with (go_at_call 45; ((with_reducible refine (HI.out _).mono ?_); rintro e w1 ⟨rfl, rfl⟩))
        go_round
        case rel => exact ⟨k + 1, by omega, by go_num, HE.out⟩
        case measure => simp [intOf]; omega
    · obtain rfl : xs.length = k := by omega
      have HE : Hid (((xs.length : Int) == 16) = ptOk xs) := by
        show ((xs.length : Int) == 16) = ptOk xs
        by_cases hl : xs.length = 16
        · rw [ptOk_good HG.out hl, beq_iff_eq]; omega
        · rw [ptOk_lenNo hl, beq_eq_false_iff_ne]; omega
      go_wp2
      go_ret
      exact ⟨ret_bool HE.out, rfl⟩
theorem l11Valid_is (a : Option Addr) (c B : Nat) (xs : List Int) (w : World) (b : Bool) (hx : Ints .i64 w B a xs) (hl : xs.length ≤ maxLen) (h : ptOk xs = b) :
    Calls Try.prog 33 #[.slice a xs.length c] w fun e w' => e = .returned (.bool b) ∧ w = w' := by
  subst h; exact l11Valid_any a c B xs w hx hl
end Go.Proofs.Ytkigjnjbjbnidaa
