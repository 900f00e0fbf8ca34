/-
  What WordDistance and its model answer, for every two lists; copies of a list. Conditions: lists that can be read.
-/
import Derived.Test.YtkeeijkjemcbcaaWrd6
namespace Go.Proofs.Ytkeeijkjemcbcaa
open Go.RowKit

theorem wt_step {xs ys : List Int} (hx : xs.all elOk = true) (hy : ys.all elOk = true) {k : Nat} (_h1 : k < xs.length) (_h2 : k < ys.length) :
    wt (fun i => co xs i ^^^ co ys i) (k + 1) = if co xs k = co ys k then wt (fun i => co xs i ^^^ co ys i) k else wt (fun i => co xs i ^^^ co ys i) k + 1 := by
  rw [wt]
  by_cases h : co xs k = co ys k
  · rw [if_pos h, if_pos (by rw [h, Nat.xor_self])]
  · rw [if_neg h, if_neg (fun e => h (xor_eq (co_lt hx k) (co_lt hy k) e))]
theorem symbolsValid_15 (a : Option Addr) (c B : Nat) (xs : List Int) (w : World) (b : Bool) (hx : Ints .i64 w B a xs) (h : wok 15 xs = b) :
    Calls Try.prog 9 #[.slice a xs.length c, .int .i64 15] w fun e w' => e = .returned (.bool b) ∧ w = w' := by
  subst h; exact symbolsValid_any a c B 15 xs w hx (by omega)
theorem l6Symbols_15 (a : Option Addr) (c B : Nat) (xs : List Int) (w : World) (b : Bool) (hx : Ints .i64 w B a xs) (hl : xs.length ≤ 1048576) (h : wok 15 xs = b) :
    Calls Try.prog 8 #[.slice a xs.length c, .int .i64 15] w fun e w' => e = .returned (.bool b) ∧ w = w' := by
  subst h; exact l6Symbols_any a c B 15 xs w hx hl
set_option maxHeartbeats 1000000 in
theorem wordDistance_any (a a' : Option Addr) (c c' : Nat) (xs ys : List Int) (w : World) (hx : Ints .i64 w w.heap.size a xs) (hy : Ints .i64 w w.heap.size a' ys) :
    Calls Try.prog 6 #[.slice a xs.length c, .slice a' ys.length c'] w fun e w' => e = .returned (.int .i64 (dist6 xs ys)) ∧ ∃ n, w' = w.drewN n := by
  cases hk : wok 15 xs
  · have HV := Lib.hid (symbolsValid_15 a c w.heap.size xs w false hx hk)
    have HE := Lib.hid (dist6_l (ys := ys) hk)
    clear hx hy hk
    go_enter Try.func6, Try.ntmps6
    go_wp2_with (go_at_call 9; refine HV.out.mono ?_; rintro e w' ⟨rfl, rfl⟩)
    go_ret
    exact ⟨ret_int HE.out.symm, 0, rfl⟩
  · have HV := Lib.hid (symbolsValid_15 a c w.heap.size xs w true hx hk)
    cases hk' : wok 15 ys
    · have HW := Lib.hid (symbolsValid_15 a' c' w.heap.size ys w false hy hk')
      have HE := Lib.hid (dist6_r (xs := xs) hk')
      clear hx hy hk hk'
      go_enter Try.func6, Try.ntmps6
      go_wp2_with (first | (go_at_call 9; ((with_reducible refine HV.out.mono ?_); rintro e w' ⟨rfl, rfl⟩)) | (go_at_call 9; ((with_reducible refine HW.out.mono ?_); rintro e w' ⟨rfl, rfl⟩)))
      go_ret
      exact ⟨ret_int HE.out.symm, 0, rfl⟩
    · obtain ⟨hl, ha⟩ := wok_parts hk
      obtain ⟨hl', ha'⟩ := wok_parts hk'
      have HE := Lib.hid (dist6_yes hk hk')
      have HA := Lib.hid ha
      have HA' := Lib.hid ha'
      have HL := Lib.hid hl
      have HL' := Lib.hid hl'
      have HX := Lib.hid hx
      have HY := Lib.hid hy
      have hl20 : xs.length ≤ 20 := by omega
      have HW := Lib.hid (symbolsValid_15 a' c' w.heap.size ys w true hy hk')
      clear hx hy hk hk' hl hl' ha ha'
      go_enter Try.func6, Try.ntmps6
      go_wp2_with (first | (go_at_call 9; ((with_reducible refine HV.out.mono ?_); rintro e w' ⟨rfl, rfl⟩)) | (go_at_call 9; ((with_reducible refine HW.out.mono ?_); rintro e w' ⟨rfl, rfl⟩)))
      clear HV HW
      go_loopw [5, 17] (fun s i wr => ∃ k n m : Nat, k ≤ xs.length ∧ i = .int .i64 k ∧ s = .int .i64 m ∧ m ≤ k ∧ m = wt (fun i => co xs i ^^^ co ys i) k ∧ wr = w.drewN n) (fun _ i _ => xs.length - (intOf i).toNat)
      case atStart => exact ⟨0, 0, 0, Nat.zero_le _, rfl, rfl, Nat.le_refl _, rfl, rfl⟩
      case round =>
        obtain ⟨k, n, m, hk, rfl, rfl, hm, hmw, rfl⟩ := hrel
        have HM := Lib.hid hmw
        clear hmw
        by_cases hlt : k < xs.length
        · have hlt' : k < ys.length := by have := HL.out; have := HL'.out; omega
          obtain ⟨b, off, rfl, hb, hc⟩ := HX.out.at_ hlt
          obtain ⟨b', off', rfl, hb', hc'⟩ := HY.out.at_ hlt'
          have hs := wt_step HA.out HA'.out hlt hlt'
          rw [(co_el HA.out hlt).1] at hc
          rw [(co_el HA'.out hlt').1] at hc'
          rw [← HM.out] at hs
          obtain ⟨p, hp⟩ : ∃ p, p = co xs k := ⟨_, rfl⟩
          obtain ⟨q, hq⟩ : ∃ q, q = co ys k := ⟨_, rfl⟩
          rw [← hp, ← hq] at hs
          rw [← hp] at hc
          rw [← hq] at hc'
          clear hp hq
          by_cases he : p = q
          · have z : ((p : Int) != (q : Int)) = false := by simp [he]
            rw [if_pos he] at hs
            have HS := Lib.hid hs
            clear he hs
            go_wp2
            go_quiet (fail)
            go_wp2
            go_roundw
            case rel => exact ⟨k + 1, _, m, by omega, by go_num, rfl, by omega, HS.out.symm, rfl⟩
            case measure => simp [intOf]; omega
          · have z : ((p : Int) != (q : Int)) = true := by simp; omega
            rw [if_neg he] at hs
            have HS := Lib.hid hs
            clear he hs
            go_wp2
            go_quiet (fail)
            go_wp2
            go_roundw
            case rel => exact ⟨k + 1, _, m + 1, by omega, by go_num, by go_num, by omega, HS.out.symm, rfl⟩
            case measure => simp [intOf]; omega
        · obtain rfl : xs.length = k := by omega
          have HD := Lib.hid (show (m : Int) = dist6 xs ys by rw [HE.out, HM.out, HL.out])
          go_wp2
          go_ret
          exact ⟨ret_int HD.out, _, rfl⟩
set_option maxHeartbeats 1000000 in
theorem specWordDistance_any (a a' : Option Addr) (c c' : Nat) (xs ys : List Int) (w : World) (hx : Ints .i64 w w.heap.size a xs) (hy : Ints .i64 w w.heap.size a' ys) (hlx : xs.length ≤ 1048576) (hly : ys.length ≤ 1048576) :
    Calls Try.prog 4 #[.slice a xs.length c, .slice a' ys.length c'] w fun e w' => e = .returned (.int .i64 (dist6 xs ys)) ∧ ∃ n, w' = w.drewN n := by
  cases hk : wok 15 xs
  · have HV := Lib.hid (l6Symbols_15 a c w.heap.size xs w false hx hlx hk)
    have HE := Lib.hid (dist6_l (ys := ys) hk)
    clear hx hy hk hlx hly
    go_enter Try.func4, Try.ntmps4
    go_wp2_with (go_at_call 8; refine HV.out.mono ?_; rintro e w' ⟨rfl, rfl⟩)
    go_ret
    exact ⟨ret_int HE.out.symm, 0, rfl⟩
  · have HV := Lib.hid (l6Symbols_15 a c w.heap.size xs w true hx hlx hk)
    cases hk' : wok 15 ys
    · have HW := Lib.hid (l6Symbols_15 a' c' w.heap.size ys w false hy hly hk')
      have HE := Lib.hid (dist6_r (xs := xs) hk')
      clear hx hy hk hk' hlx hly
      go_enter Try.func4, Try.ntmps4
      go_wp2_with (first | (go_at_call 8; ((with_reducible refine HV.out.mono ?_); rintro e w' ⟨rfl, rfl⟩)) | (go_at_call 8; ((with_reducible refine HW.out.mono ?_); rintro e w' ⟨rfl, rfl⟩)))
      go_ret
      exact ⟨ret_int HE.out.symm, 0, rfl⟩
    · obtain ⟨hl, ha⟩ := wok_parts hk
      obtain ⟨hl', ha'⟩ := wok_parts hk'
      have HE := Lib.hid (dist6_yes hk hk')
      have HA := Lib.hid ha
      have HA' := Lib.hid ha'
      have HL := Lib.hid hl
      have HL' := Lib.hid hl'
      have HX := Lib.hid hx
      have HY := Lib.hid hy
      have HW := Lib.hid (l6Symbols_15 a' c' w.heap.size ys w true hy hly hk')
      clear hx hy hk hk' hl hl' ha ha' hlx hly
      go_enter Try.func4, Try.ntmps4
      go_wp2_with (first | (go_at_call 8; ((with_reducible refine HV.out.mono ?_); rintro e w' ⟨rfl, rfl⟩)) | (go_at_call 8; ((with_reducible refine HW.out.mono ?_); rintro e w' ⟨rfl, rfl⟩)))
      clear HV HW
      go_loopw [5, 6] (fun s i wr => ∃ k n m : Nat, k ≤ 15 ∧ i = .int .i64 k ∧ s = .int .i64 m ∧ m ≤ k ∧ m = wt (fun i => co xs i ^^^ co ys i) k ∧ wr = w.drewN n) (fun _ i _ => 15 - (intOf i).toNat)
      case atStart => exact ⟨0, 0, 0, Nat.zero_le _, rfl, rfl, Nat.le_refl _, rfl, rfl⟩
      case round =>
        obtain ⟨k, n, m, hk, rfl, rfl, hm, hmw, rfl⟩ := hrel
        have HM := Lib.hid hmw
        clear hmw
        by_cases hlt15 : k < 15
        · have hlt : k < xs.length := by have := HL.out; omega
          have hlt' : k < ys.length := by have := HL'.out; omega
          obtain ⟨b, off, rfl, hb, hc⟩ := HX.out.at_ hlt
          obtain ⟨b', off', rfl, hb', hc'⟩ := HY.out.at_ hlt'
          have hs := wt_step HA.out HA'.out hlt hlt'
          rw [(co_el HA.out hlt).1] at hc
          rw [(co_el HA'.out hlt').1] at hc'
          rw [← HM.out] at hs
          obtain ⟨p, hp⟩ : ∃ p, p = co xs k := ⟨_, rfl⟩
          obtain ⟨q, hq⟩ : ∃ q, q = co ys k := ⟨_, rfl⟩
          rw [← hp, ← hq] at hs
          rw [← hp] at hc
          rw [← hq] at hc'
          clear hp hq
          by_cases he : p = q
          · have z : ((p : Int) != (q : Int)) = false := by simp [he]
            rw [if_pos he] at hs
            have HS := Lib.hid hs
            clear he hs
            go_wp2
            go_quiet (fail)
            go_wp2
            go_roundw
            case rel => exact ⟨k + 1, _, m, by omega, by go_num, rfl, by omega, HS.out.symm, rfl⟩
            case measure => simp [intOf]; omega
          · have z : ((p : Int) != (q : Int)) = true := by simp; omega
            rw [if_neg he] at hs
            have HS := Lib.hid hs
            clear he hs
            go_wp2
            go_quiet (fail)
            go_wp2
            go_roundw
            case rel => exact ⟨k + 1, _, m + 1, by omega, by go_num, by go_num, by omega, HS.out.symm, rfl⟩
            case measure => simp [intOf]; omega
        · obtain rfl : k = 15 := by omega
          have HD := Lib.hid (show (m : Int) = dist6 xs ys by rw [HE.out, HM.out])
          go_wp2
          go_ret
          exact ⟨ret_int HD.out, _, rfl⟩
end Go.Proofs.Ytkeeijkjemcbcaa
