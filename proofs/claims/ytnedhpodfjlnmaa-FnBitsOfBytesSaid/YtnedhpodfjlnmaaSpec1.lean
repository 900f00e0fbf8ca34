/-
  What the model's HammingDistance and AddBits answer, for every two lists.
-/
import Derived.Test.YtnedhpodfjlnmaaImpl2
namespace Go.Proofs.Ytnedhpodfjlnmaa
open Go.RowKit

theorem bit_cases {xs : List Int} (h : bitsOk xs = true) {k : Nat} (hk : k < xs.length) : el xs k = 0 ∨ el xs k = 1 := by
  simp only [bitsOk, Bool.and_eq_true, List.all_eq_true] at h
  have := h.2 _ (el_mem hk)
  simpa [isBit] using this
theorem xor00 : bits .xor .i64 0 0 = 0 := by kernel_rfl
theorem xor01 : bits .xor .i64 0 1 = 1 := by kernel_rfl
theorem xor10 : bits .xor .i64 1 0 = 1 := by kernel_rfl
theorem xor11 : bits .xor .i64 1 1 = 0 := by kernel_rfl
theorem xor_el {xs ys : List Int} (h : pairOk xs ys = true) {k : Nat} (hk : k < xs.length) : bits .xor .i64 (el xs k) (el ys k) = ((xorF xs ys k).toNat : Int) := by
  obtain ⟨h1, h2, h3⟩ := pairOk_parts h
  have a1 := bit_cases h1 hk
  have a2 := bit_cases h2 (k := k) (by omega)
  unfold xorF bitsF
  rcases a1 with e1 | e1 <;> rcases a2 with e2 | e2 <;> rw [e1, e2] <;> simp [hk, xor00, xor01, xor10, xor11]

set_option maxHeartbeats 1000000 in
theorem specHamming_any (a a' : Option Addr) (c c' B B' : Nat) (xs ys : List Int) (w : World) (hx : Ints .i64 w B a xs) (hy : Ints .i64 w B' a' ys) (hl : xs.length ≤ maxLen) (hl' : ys.length ≤ maxLen) :
    Calls Try.prog 28 #[.slice a xs.length c, .slice a' ys.length c'] w fun e w' => e = .returned (.int .i64 (distOr xs ys)) ∧ ∃ n, w' = w.drewN n := by
  have HX := Lib.hid hx
  have HY := Lib.hid hy
  have HL := Lib.hid hl
  have HL' := Lib.hid hl'
  clear hx hy hl hl'
  cases h1 : bitsOk xs
  · have HD := Lib.hid (show distOr xs ys = -1 by simp [distOr, pairOk, h1])
    go_enter Try.func28, Try.ntmps28
    go_wp2_with (go_at_call 16; refine (specBitsValid_any _ _ _ _ _ HX.out HL.out).mono ?_; rintro e w' ⟨rfl, rfl⟩)
    go_ret
    exact ⟨ret_int HD.out.symm, 0, rfl⟩
  · cases h2 : bitsOk ys
    · have HD := Lib.hid (show distOr xs ys = -1 by simp [distOr, pairOk, h1, h2])
      go_enter Try.func28, Try.ntmps28
      go_wp2_with (first | (go_at_call 16; ((with_reducible refine (specBitsValid_any a c B xs w HX.out HL.out).mono ?_); rintro e w' ⟨rfl, rfl⟩)) | (go_at_call 16; ((with_reducible refine (specBitsValid_any a' c' B' ys w HY.out HL'.out).mono ?_); rintro e w' ⟨rfl, rfl⟩)))
      go_ret
      exact ⟨ret_int HD.out.symm, 0, rfl⟩
    · by_cases hlen : xs.length = ys.length
      · have HP := Lib.hid (show pairOk xs ys = true by simp [pairOk, h1, h2, hlen])
        have hne : ((xs.length : Int) != (ys.length : Int)) = false := by simp [hlen]
        have hb := bitsOk_length h1
        have HLen := Lib.hid hlen
        clear hlen
        go_enter Try.func28, Try.ntmps28
        go_wp2_with (first | (go_at_call 16; ((with_reducible refine (specBitsValid_any a c B xs w HX.out HL.out).mono ?_); rintro e w' ⟨rfl, rfl⟩)) | (go_at_call 16; ((with_reducible refine (specBitsValid_any a' c' B' ys w HY.out HL'.out).mono ?_); rintro e w' ⟨rfl, rfl⟩)))
        clear hne
        go_loopw [5, 6] (fun s i wr => ∃ k n : Nat, k ≤ xs.length ∧ i = .int .i64 k ∧ s = .int .i64 (cnt (xorF xs ys) k) ∧ wr = w.drewN n) (fun _ i _ => xs.length - (intOf i).toNat)
        case atStart => exact ⟨0, 0, Nat.zero_le _, rfl, rfl, rfl⟩
        case round =>
          obtain ⟨k, n, hk, rfl, rfl, rfl⟩ := hrel
          by_cases hlt : k < xs.length
          · obtain ⟨b, off, rfl, hb, hc⟩ := HX.out.at_ hlt
            obtain ⟨b', off', rfl, hb', hc'⟩ := HY.out.at_ (i := k) (by have := HLen.out; omega)
            have hlt' : k < ys.length := by have := HLen.out; omega
            have hxor := xor_el HP.out hlt
            have hcl := cnt_le (xorF xs ys) (k + 1)
            have hsum : IntKind.i64.wrap ((cnt (xorF xs ys) k : Int) + ((xorF xs ys k).toNat : Int)) = (cnt (xorF xs ys) (k + 1) : Int) := by
              have e : cnt (xorF xs ys) (k + 1) = cnt (xorF xs ys) k + (xorF xs ys k).toNat := rfl
              rw [IntKind.wrap_i64]; omega
            clear hcl
            go_wp2
            go_quiet (fail)
            go_wp2
            go_roundw
            case rel => exact ⟨k + 1, _, by omega, by go_num, rfl, rfl⟩
            case measure => simp [intOf]; omega
          · obtain rfl : xs.length = k := by omega
            have HD := Lib.hid (show (cnt (xorF xs ys) xs.length : Int) = distOr xs ys by simp [distOr, HP.out, dist])
            go_wp2
            go_ret
            exact ⟨ret_int HD.out, n, rfl⟩
      · have HD := Lib.hid (show distOr xs ys = -1 by simp [distOr, pairOk, h1, h2, hlen])
        have hne : ((xs.length : Int) != (ys.length : Int)) = true := by simp; omega
        clear hlen
        go_enter Try.func28, Try.ntmps28
        go_wp2_with (first | (go_at_call 16; ((with_reducible refine (specBitsValid_any a c B xs w HX.out HL.out).mono ?_); rintro e w' ⟨rfl, rfl⟩)) | (go_at_call 16; ((with_reducible refine (specBitsValid_any a' c' B' ys w HY.out HL'.out).mono ?_); rintro e w' ⟨rfl, rfl⟩)))
        go_ret
        exact ⟨ret_int HD.out.symm, 0, rfl⟩
end Go.Proofs.Ytnedhpodfjlnmaa
