/-
  What the copies and comparisons of lists answer. No condition but that a list has at most 2^20 elements.
-/
import Derived.Test.YtnmhiagnmfpipaaBase
namespace Go.Proofs.Ytnmhiagnmfpipaa
open Go.RowKit

set_option maxRecDepth 10000 in
set_option maxHeartbeats 400000 in
theorem toIntS_any (a : Option Addr) (c B : Nat) (xs : List Int) (w : World) (hx : Ints .i64 w B a xs) (hB : B ≤ w.heap.size) (hl : xs.length ≤ 1048576) :
    Calls Try.prog 61 #[.slice a xs.length c] w fun e w' => e = .returned (.slice (some ⟨w.heap.size, 0, none⟩) xs.length xs.length) ∧
      w'.rowIs w.heap.size 3 xs.length (fun i => .int .i64 (el xs i)) ∧ Below w.heap.size w w' := by
  have hmk := run_make_row' (P := Try.prog) 27 3 (.int .i64 0) 8 Try.underlying27 Try.infoInt rfl .i64 .i64 xs.length (by omega) (by omega)
  go_enter Try.func61, Try.ntmps61
  go_wp2
  clear hmk
  go_loopw [4] (fun i wr => ∃ k : Nat, k ≤ xs.length ∧ i = .int .i64 k ∧ wr.rowIs w.heap.size 3 xs.length (fun j => .int .i64 (if j < k then el xs j else 0)) ∧ Below w.heap.size w wr) (fun i _ => xs.length - (intOf i).toNat)
  case atStart => exact ⟨0, Nat.zero_le _, rfl, (World.rowIs_made w _ _ _).congr (by intro j hj; simp), (Below.refl _ _).alloc (Nat.le_refl _) _⟩
  case round =>
    obtain ⟨k, hk, rfl, hrow, hbel⟩ := hrel
    by_cases hlt : k < xs.length
    · obtain ⟨b, off, rfl, hb, hc⟩ := (hx.below (hbel.mono hB)).at_ hlt
      have hf := hrow.frozen k
      have hcell := hrow.cell hlt
      have hcv : wr.cell? ⟨w.heap.size, k, none⟩ = some (.int .i64 0) := by rw [hcell]; simp
      have R1 := (hrow.set k (.int .i64 (el xs k))).congr (g := fun j => .int .i64 (if j < k + 1 then el xs j else 0)) (by
        intro j hj
        by_cases e : j = k
        · subst e; simp
        · simp only [e, if_false]
          by_cases h2 : j < k
          · simp [h2, Nat.lt_succ_of_lt h2]
          · simp [h2, show ¬ j < k + 1 by omega])
      have R2 : Below w.heap.size w (wr.setCell ⟨w.heap.size, k, none⟩ (.int .i64 (el xs k))) := hbel.setCell (Nat.le_refl _) _
      have H1 := Lib.hid R1
      have H2 := Lib.hid R2
      clear R1 R2 hcell hrow hbel hx
      go_wp2
      go_roundw
      case rel => exact ⟨k + 1, by omega, by go_num, H1.out, H2.out⟩
      case measure => simp [intOf]; omega
    · have H1 := Lib.hid (hrow.congr (g := fun j => .int .i64 (el xs j)) (by intro j hj; simp [show j < k by omega]))
      have H2 := Lib.hid hbel
      clear hrow hbel hx
      go_wp2
      go_ret
      exact ⟨rfl, H1.out, H2.out⟩

set_option maxRecDepth 10000 in
set_option maxHeartbeats 400000 in
theorem eqIntS_any (a a' : Option Addr) (c c' B B' : Nat) (xs ys : List Int) (w : World) (hx : Ints .i64 w B a xs) (hy : Ints .i64 w B' a' ys) (hl : xs.length ≤ 1048576) :
    Calls Try.prog 37 #[.slice a xs.length c, .slice a' ys.length c'] w fun e w' => e = .returned (.bool (decide (xs = ys))) ∧ ∃ n, w' = w.drewN n := by
  by_cases hlen : xs.length = ys.length
  · have hb1 : ((xs.length : Int) != (ys.length : Int)) = false := by simp [hlen]
    have HL := Lib.hid hlen
    clear hlen
    go_enter Try.func37, Try.ntmps37
    go_wp2
    clear hb1
    go_loopw [5] (fun i wr => ∃ k n : Nat, k ≤ xs.length ∧ i = .int .i64 k ∧ xs.take k = ys.take k ∧ wr = w.drewN n) (fun i _ => xs.length - (intOf i).toNat)
    case atStart => exact ⟨0, 0, Nat.zero_le _, rfl, by simp, rfl⟩
    case round =>
      obtain ⟨k, n, hk, rfl, htk, rfl⟩ := hrel
      have HT := Lib.hid htk
      clear htk
      by_cases hlt : k < xs.length
      · have hlt' : k < ys.length := by have := HL.out; omega
        obtain ⟨b, off, rfl, hb, hc⟩ := hx.at_ hlt
        obtain ⟨b', off', rfl, hb', hc'⟩ := hy.at_ hlt'
        clear hx hy
        by_cases he : el xs k = el ys k
        · have hne : (el xs k != el ys k) = false := by simp [he]
          have HE := Lib.hid he
          clear he
          go_wp2
          go_quiet (fail)
          go_wp2
          go_roundw
          case rel => exact ⟨k + 1, _, by omega, by go_num, by rw [take_el hlt, take_el hlt', HT.out, HE.out], rfl⟩
          case measure => simp [intOf]; omega
        · have hne : (el xs k != el ys k) = true := by simp [he]
          have HE : Hid (xs ≠ ys) := by
            intro e
            subst e
            exact he rfl
          clear he
          go_wp2
          go_quiet (fail)
          go_wp2
          go_ret
          exact ⟨ret_bool (by simp [HE.out]), _, World.drewN_drewN _ _ _⟩
      · have HE : Hid (xs = ys) := by
          have h1 : xs.take k = xs := List.take_of_length_le (by omega)
          have h2 : ys.take k = ys := List.take_of_length_le (by have := HL.out; omega)
          have h3 := HT.out
          rw [h1, h2] at h3
          exact h3
        clear hx hy
        go_wp2
        go_ret
        exact ⟨ret_bool (by simp [HE.out]), n, rfl⟩
  · have hb1 : ((xs.length : Int) != (ys.length : Int)) = true := by simp; omega
    have HE : Hid (xs ≠ ys) := by
      intro e
      subst e
      exact hlen rfl
    clear hlen
    go_enter Try.func37, Try.ntmps37
    go_wp2
    go_ret
    exact ⟨ret_bool (by simp [HE.out]), 0, rfl⟩

set_option maxRecDepth 10000 in
set_option maxHeartbeats 400000 in
theorem sameInts_any (a a' : Option Addr) (c c' B B' : Nat) (xs ys : List Int) (w : World) (hx : Ints .i64 w B a xs) (hy : Ints .i64 w B' a' ys) (hl : xs.length ≤ 1048576) :
    Calls Try.prog 21 #[.slice a xs.length c, .slice a' ys.length c'] w fun e w' => e = .returned (.bool (decide (xs = ys))) ∧ ∃ n, w' = w.drewN n := by
  by_cases hlen : xs.length = ys.length
  · have hb1 : ((xs.length : Int) != (ys.length : Int)) = false := by simp [hlen]
    have HL := Lib.hid hlen
    clear hlen
    go_enter Try.func21, Try.ntmps21
    go_wp2
    clear hb1
    go_loopw [5] (fun i wr => ∃ k n : Nat, k ≤ xs.length ∧ i = .int .i64 k ∧ xs.take k = ys.take k ∧ wr = w.drewN n) (fun i _ => xs.length - (intOf i).toNat)
    case atStart => exact ⟨0, 0, Nat.zero_le _, rfl, by simp, rfl⟩
    case round =>
      obtain ⟨k, n, hk, rfl, htk, rfl⟩ := hrel
      have HT := Lib.hid htk
      clear htk
      by_cases hlt : k < xs.length
      · have hlt' : k < ys.length := by have := HL.out; omega
        obtain ⟨b, off, rfl, hb, hc⟩ := hx.at_ hlt
        obtain ⟨b', off', rfl, hb', hc'⟩ := hy.at_ hlt'
        clear hx hy
        by_cases he : el xs k = el ys k
        · have hne : (el xs k != el ys k) = false := by simp [he]
          have HE := Lib.hid he
          clear he
          go_wp2
          go_quiet (fail)
          go_wp2
          go_roundw
          case rel => exact ⟨k + 1, _, by omega, by go_num, by rw [take_el hlt, take_el hlt', HT.out, HE.out], rfl⟩
          case measure => simp [intOf]; omega
        · have hne : (el xs k != el ys k) = true := by simp [he]
          have HE : Hid (xs ≠ ys) := by
            intro e
            subst e
            exact he rfl
          clear he
          go_wp2
          go_quiet (fail)
          go_wp2
          go_ret
          exact ⟨ret_bool (by simp [HE.out]), _, World.drewN_drewN _ _ _⟩
      · have HE : Hid (xs = ys) := by
          have h1 : xs.take k = xs := List.take_of_length_le (by omega)
          have h2 : ys.take k = ys := List.take_of_length_le (by have := HL.out; omega)
          have h3 := HT.out
          rw [h1, h2] at h3
          exact h3
        clear hx hy
        go_wp2
        go_ret
        exact ⟨ret_bool (by simp [HE.out]), n, rfl⟩
  · have hb1 : ((xs.length : Int) != (ys.length : Int)) = true := by simp; omega
    have HE : Hid (xs ≠ ys) := by
      intro e
      subst e
      exact hlen rfl
    clear hlen
    go_enter Try.func21, Try.ntmps21
    go_wp2
    go_ret
    exact ⟨ret_bool (by simp [HE.out]), 0, rfl⟩


end Go.Proofs.Ytnmhiagnmfpipaa
