/-
  What Equal, Grow and Concat of the library's package slices answer for lists of integers. Conditions: at most 2^20 numbers; Grow from nil; Concat of two lists that are not both empty.
-/
import Derived.Test.YtlgcacoggikfcaaAppendA
import Derived.Test.YtlgcacoggikfcaaImpl2
import Derived.Test.YtlgcacoggikfcaaOne
import Derived.Outline
namespace Go.Proofs.Ytlgcacoggikfcaa
open Go.RowKit

set_option maxHeartbeats 400000 in
theorem slicesEqual_any (a a' : Option Addr) (c c' B B' : Nat) (xs ys : List Int) (w : World) (hx : Ints .i64 w B a xs) (hy : Ints .i64 w B' a' ys) (hl : xs.length ≤ 1048576) :
    Calls Try.prog 47 #[.slice a xs.length c, .slice a' ys.length c'] w fun e w' => e = .returned (.bool (decide (xs = ys))) ∧ ∃ n, w' = w.drewN n := by
  by_cases hlen : xs.length = ys.length
  · have hb1 : ((xs.length : Int) != (ys.length : Int)) = false := by simp [hlen]
    have HL := Lib.hid hlen
    clear hlen
    go_enter Try.func47, Try.ntmps47
    go_wp2
    clear hb1
    go_loopw [13] (fun i wr => ∃ k n : Nat, k ≤ xs.length ∧ i = .int .i64 k ∧ xs.take k = ys.take k ∧ wr = w.drewN n) (fun i _ => xs.length - (intOf i).toNat)
    case atStart => exact ⟨0, 0, Nat.zero_le _, rfl, by simp, rfl⟩
    case round =>
      obtain ⟨k, n, hk, rfl, htk, rfl⟩ := hrel
      have HT := Lib.hid htk
      clear htk
      by_cases hlt : k < xs.length
      · have hlt' : k < ys.length := by have := HL.out; omega
        obtain ⟨b, off, rfl, hb, hc⟩ := hx.at_ hlt
        obtain ⟨b', off', rfl, hb', hc'⟩ := hy.at_ hlt'
        clear hx hy
        by_cases he : el xs k = el ys k
        · have hne : (el xs k != el ys k) = false := by simp [he]
          have HE := Lib.hid he
          clear he
          go_wp2
          go_quiet (fail)
          go_wp2
          go_roundw
          case rel => exact ⟨k + 1, _, by omega, by go_num, by rw [take_el hlt, take_el hlt', HT.out, HE.out], rfl⟩
          case measure => simp [intOf]; omega
        · have hne : (el xs k != el ys k) = true := by simp [he]
          have HE : Hid (xs ≠ ys) := by
            intro e
            subst e
            exact he rfl
          clear he
          go_wp2
          go_quiet (fail)
          go_wp2
          go_ret
          exact ⟨ret_bool (by simp [HE.out]), _, World.drewN_drewN _ _ _⟩
      · have HE : Hid (xs = ys) := by
          have h1 : xs.take k = xs := List.take_of_length_le (by omega)
          have h2 : ys.take k = ys := List.take_of_length_le (by have := HL.out; omega)
          have h3 := HT.out
          rw [h1, h2] at h3
          exact h3
        clear hx hy
        go_wp2
        go_ret
        exact ⟨ret_bool (by simp [HE.out]), n, rfl⟩
  · have hb1 : ((xs.length : Int) != (ys.length : Int)) = true := by simp; omega
    have HE : Hid (xs ≠ ys) := by
      intro e
      subst e
      exact hlen rfl
    clear hlen
    go_enter Try.func47, Try.ntmps47
    go_wp2
    go_ret
    exact ⟨ret_bool (by simp [HE.out]), 0, rfl⟩

def GrowPost (w : World) (e : Ending) (w' : World) : Prop :=
  ∃ a cap, e = .returned (.slice a 0 cap) ∧ Grow .i64 3 w' w.heap.size a 0 cap [] ∧ Below w.heap.size w w'
theorem grow_cut {w : World} {base n cap : Nat} {a : Option Addr} {xs : List Int} (h : Grow .i64 3 w base a n cap xs) (ha : a ≠ none) : Grow .i64 3 w base a 0 cap [] := by
  rcases h.2 with ⟨e, h0⟩ | ⟨g, cp, cur, e, hg, hh, hnc, hcm, hcs, _⟩
  · injection e with e1; exact absurd e1 ha
  · injection e with e1 _ e3
    subst e1 e3
    exact ⟨rfl, .inr ⟨g, cap, cur, rfl, hg, hh, Nat.zero_le _, hcm, hcs, by simp⟩⟩
end Go.Proofs.Ytlgcacoggikfcaa
