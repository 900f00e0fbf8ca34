/-
  What the copies and comparisons of lists answer. No condition but that a list has at most 2^20 elements.
-/
import Derived.Test.YtibgpgifdjefnaaDoorBase
namespace Go.Proofs.YtibgpgifdjefnaaDoor
open Go.RowKit

set_option maxRecDepth 10000 in
set_option maxHeartbeats 400000 in
theorem sameInts_any (a a' : Option Addr) (c c' B B' : Nat) (xs ys : List Int) (w : World) (hx : Ints .i64 w B a xs) (hy : Ints .i64 w B' a' ys) (hl : xs.length ≤ 1048576) :
    Calls Tryd.prog 9 #[.slice a xs.length c, .slice a' ys.length c'] w fun e w' => e = .returned (.bool (decide (xs = ys))) ∧ ∃ n, w' = w.drewN n := by
  by_cases hlen : xs.length = ys.length
  · have hb1 : ((xs.length : Int) != (ys.length : Int)) = false := by simp [hlen]
    have HL := Lib.hid hlen
    clear hlen
    go_enter Tryd.func9, Tryd.ntmps9
    go_wp2
    clear hb1
    go_loopw [5] (fun i wr => ∃ k n : Nat, k ≤ xs.length ∧ i = .int .i64 k ∧ xs.take k = ys.take k ∧ wr = w.drewN n) (fun i _ => xs.length - (intOf i).toNat)
    case atStart => exact ⟨0, 0, Nat.zero_le _, rfl, by simp, rfl⟩
    case round =>
      obtain ⟨k, n, hk, rfl, htk, rfl⟩ := hrel
      have HT := Lib.hid htk
      clear htk
      by_cases hlt : k < xs.length
      · have hlt' : k < ys.length := by have := HL.out; omega
        obtain ⟨b, off, rfl, hb, hc⟩ := hx.at_ hlt
        obtain ⟨b', off', rfl, hb', hc'⟩ := hy.at_ hlt'
        clear hx hy
        by_cases he : el xs k = el ys k
        · have hne : (el xs k != el ys k) = false := by simp [he]
          have HE := Lib.hid he
          clear he
          go_wp2
          go_quiet (fail)
          go_wp2
          go_roundw
          case rel => exact ⟨k + 1, _, by omega, by go_num, by rw [take_el hlt, take_el hlt', HT.out, HE.out], rfl⟩
          case measure => simp [intOf]; omega
        · have hne : (el xs k != el ys k) = true := by simp [he]
          have HE : Hid (xs ≠ ys) := by
            intro e
            subst e
            exact he rfl
          clear he
          go_wp2
          go_quiet (fail)
          go_wp2
          go_ret
          exact ⟨ret_bool (by simp [HE.out]), _, World.drewN_drewN _ _ _⟩
      · have HE : Hid (xs = ys) := by
          have h1 : xs.take k = xs := List.take_of_length_le (by omega)
          have h2 : ys.take k = ys := List.take_of_length_le (by have := HL.out; omega)
          have h3 := HT.out
          rw [h1, h2] at h3
          exact h3
        clear hx hy
        go_wp2
        go_ret
        exact ⟨ret_bool (by simp [HE.out]), n, rfl⟩
  · have hb1 : ((xs.length : Int) != (ys.length : Int)) = true := by simp; omega
    have HE : Hid (xs ≠ ys) := by
      intro e
      subst e
      exact hlen rfl
    clear hlen
    go_enter Tryd.func9, Tryd.ntmps9
    go_wp2
    go_ret
    exact ⟨ret_bool (by simp [HE.out]), 0, rfl⟩


end Go.Proofs.YtibgpgifdjefnaaDoor
