/-
  What copying, marking and unpacking bytes answer. Conditions: at most 2^20 bytes; the first mark is below 2^30.
-/
import Derived.Test.YtnedhpodfjlnmaaPackBytes
import Derived.Test.YtnedhpodfjlnmaaOwn
namespace Go.Proofs.Ytnedhpodfjlnmaa
open Go.RowKit

theorem Try.infoByte : (Try.prog.info? 5).map (fun i => (i.zero, i.size, i.bytes)) = some (some (.int .u8 0), 1, 1) := by kernel_rfl
set_option maxHeartbeats 400000 in
theorem toByteS_any (a : Option Addr) (c B : Nat) (xs : List Int) (w : World) (hx : Ints .u8 w B a xs) (hB : B ≤ w.heap.size) (hl : xs.length ≤ 1048576) :
    Calls Try.prog 34 #[.slice a xs.length c] w fun e w' => e = .returned (.slice (some ⟨w.heap.size, 0, none⟩) xs.length xs.length) ∧
      w'.rowIs w.heap.size 5 xs.length (fun i => .int .u8 (el xs i)) ∧ Below w.heap.size w w' := by
  have hmk := run_make_row' (P := Try.prog) 22 5 (.int .u8 0) 1 Try.underlying22 Try.infoByte rfl .i64 .i64 xs.length (by omega) (by omega)
  go_enter Try.func34, Try.ntmps34
  go_wp2
  clear hmk
  go_loopw [4] (fun i wr => ∃ k : Nat, k ≤ xs.length ∧ i = .int .i64 k ∧ wr.rowIs w.heap.size 5 xs.length (fun j => .int .u8 (if j < k then el xs j else 0)) ∧ Below w.heap.size w wr) (fun i _ => xs.length - (intOf i).toNat)
  case atStart => exact ⟨0, Nat.zero_le _, rfl, (World.rowIs_made w _ _ _).congr (by intro j hj; simp), (Below.refl _ _).alloc (Nat.le_refl _) _⟩
  case round =>
    obtain ⟨k, hk, rfl, hrow, hbel⟩ := hrel
    by_cases hlt : k < xs.length
    · obtain ⟨b, off, rfl, hb, hc⟩ := (hx.below (hbel.mono hB)).at_ hlt
      have hf := hrow.frozen k
      have hcell := hrow.cell hlt
      have hcv : wr.cell? ⟨w.heap.size, k, none⟩ = some (.int .u8 0) := by rw [hcell]; simp
      have R1 := (hrow.set k (.int .u8 (el xs k))).congr (g := fun j => .int .u8 (if j < k + 1 then el xs j else 0)) (by
        intro j hj
        by_cases e : j = k
        · subst e; simp
        · simp only [e, if_false]
          by_cases h2 : j < k
          · simp [h2, Nat.lt_succ_of_lt h2]
          · simp [h2, show ¬ j < k + 1 by omega])
      have R2 : Below w.heap.size w (wr.setCell ⟨w.heap.size, k, none⟩ (.int .u8 (el xs k))) := hbel.setCell (Nat.le_refl _) _
      have H1 := Lib.hid R1
      have H2 := Lib.hid R2
      clear R1 R2 hcell hrow hbel hx
      go_wp2
      go_roundw
      case rel => exact ⟨k + 1, by omega, by go_num, H1.out, H2.out⟩
      case measure => simp [intOf]; omega
    · have H1 := Lib.hid (hrow.congr (g := fun j => .int .u8 (el xs j)) (by intro j hj; simp [show j < k by omega]))
      have H2 := Lib.hid hbel
      clear hrow hbel hx
      go_wp2
      go_ret
      exact ⟨rfl, H1.out, H2.out⟩
set_option maxHeartbeats 400000 in
theorem markByteS_row (b cap c n k0 : Nat) (f : Nat → Value) (w : World) (hr : w.rowIs b 5 cap f) (hn : n ≤ cap) (hl : n ≤ 1048576) (hk : k0 ≤ 1073741824) :
    Calls Try.prog 36 #[.slice (some ⟨b, 0, none⟩) n c, .int .i64 k0] w fun e w' => e = .returned (.int .i64 (k0 + n : Nat)) ∧ w'.rowIs b 5 cap (fun j => if j < n then .int .u8 ((k0 + j) % 256 : Nat) else f j) ∧ w.grownBy w' (some b) := by
  have HR := Lib.hid hr
  clear hr
  go_enter Try.func36, Try.ntmps36
  go_wp2
  go_loopw [1, 5] (fun q i wr => ∃ k : Nat, k ≤ n ∧ i = .int .i64 k ∧ q = .int .i64 (k0 + k : Nat) ∧ wr.rowIs b 5 cap (fun j => if j < k then .int .u8 ((k0 + j) % 256 : Nat) else f j) ∧ w.grownBy wr (some b)) (fun _ i _ => n - (intOf i).toNat)
  case atStart => exact ⟨0, Nat.zero_le _, rfl, rfl, HR.out.congr (by intro j hj; simp), World.grownBy.refl _ _⟩
  case round =>
    obtain ⟨k, hk', rfl, rfl, hrow, hg⟩ := hrel
    by_cases hlt : k < n
    · have hf := hrow.frozen k
      have hcv : wr.cell? ⟨b, k, none⟩ = some (f k) := by rw [hrow.cell (by omega)]; simp
      have H1 := Lib.hid (set_mark (v := .int .u8 ((k0 + k) % 256 : Nat)) hrow rfl)
      have H2 := Lib.hid (grown_set (i := k) (v := .int .u8 ((k0 + k) % 256 : Nat)) hg)
      clear hrow hg
      go_wp2
      go_roundw
      case rel => exact ⟨k + 1, by omega, by go_num, by go_num, H1.out, H2.out⟩
      case measure => simp [intOf]; omega
    · obtain rfl : n = k := by omega
      have H1 := Lib.hid hrow
      have H2 := Lib.hid hg
      clear hrow hg
      go_wp2
      go_ret
      exact ⟨rfl, H1.out, H2.out⟩
theorem markByteS_nil (a : Option Addr) (c k0 : Nat) (w : World) : Calls Try.prog 36 #[.slice a 0 c, .int .i64 k0] w fun e w' => e = .returned (.int .i64 k0) ∧ w = w' := by
  go_enter Try.func36, Try.ntmps36
  go_wp2
  refine wp_loop_rounds 1 ?_
  rw [rounds_succ]
  go_wp2
  go_ret
  exact ⟨rfl, rfl⟩
set_option maxHeartbeats 400000 in
theorem heldByteS_any (a : Option Addr) (B c n k0 : Nat) (w : World) (hx : Ints .u8 w B a (bmarks k0 n)) (hl : n ≤ 1048576) (hk : k0 ≤ 1073741824) :
    Calls Try.prog 39 #[.slice a n c, .int .i64 k0] w fun e w' => e = .returned (.int .i64 (k0 + n : Nat)) ∧ w = w' := by
  have HX := Lib.hid hx
  clear hx
  go_enter Try.func39, Try.ntmps39
  go_wp2
  go_loop [1, 5] (fun q i => ∃ k : Nat, k ≤ n ∧ i = .int .i64 k ∧ q = .int .i64 (k0 + k : Nat)) (fun _ i => n - (intOf i).toNat)
  case atStart => exact ⟨0, Nat.zero_le _, rfl, rfl⟩
  case round =>
    obtain ⟨k, hk', rfl, rfl⟩ := hrel
    by_cases hlt : k < n
    · obtain ⟨b, off, rfl, hb, hc⟩ := HX.out.at_ (i := k) (by rw [bmarks_length]; exact hlt)
      rw [bmarks_el _ _ _ hlt] at hc
      go_wp2
      go_round
      case rel => exact ⟨k + 1, by omega, by go_num, by go_num⟩
      case measure => simp [intOf]; omega
    · obtain rfl : n = k := by omega
      go_wp2
      go_ret
      exact ⟨rfl, rfl⟩

theorem toByteS_own (a : Option Addr) (c : Nat) (xs : List Int) (w : World) (hx : Ints .u8 w w.heap.size a xs) (hl : xs.length ≤ 1048576) :
    Calls Try.prog 34 #[.slice a xs.length c] w fun e w' => ∃ v, e = .returned (.slice v xs.length xs.length) ∧ Own .u8 5 w' w.heap.size w'.heap.size v xs ∧ Below w.heap.size w w' :=
  (toByteS_any a c w.heap.size xs w hx (Nat.le_refl _) hl).mono fun _ _ ⟨h1, h2, h3⟩ => ⟨_, h1, own_of_row h2 rfl h2.lt, h3⟩
theorem markByteS_own (a : Option Addr) (c k0 B C : Nat) (xs : List Int) (w : World) (h : Own .u8 5 w B C a xs) (hl : xs.length ≤ 1048576) (hk : k0 ≤ 1073741824) :
    Calls Try.prog 36 #[.slice a xs.length c, .int .i64 k0] w fun e w' => e = .returned (.int .i64 (k0 + xs.length : Nat)) ∧ Own .u8 5 w' B C a (bmarks k0 xs.length) ∧ KeptOut B C w w' := by
  by_cases hne : xs = []
  · subst hne
    exact (markByteS_nil a c k0 w).mono fun _ _ ⟨h1, h2⟩ => ⟨h1, fun hm => absurd (by simp [bmarks]) hm, h2 ▸ KeptOut.refl _ _ _⟩
  · obtain ⟨b, cap, f, rfl, h1, h2, h3, h4, h5⟩ := h hne
    refine (markByteS_row b cap c xs.length k0 f w h4 h3 hl hk).mono fun _ _ ⟨e1, e2, e3⟩ => ⟨e1, fun _ => ⟨b, cap, _, rfl, h1, h2, by rw [bmarks_length]; exact h3, e2, fun i hi => ?_⟩, KeptOut.of_grown e3 h1 h2⟩
    rw [bmarks_length] at hi
    simp only [hi, if_true]
    rw [bmarks_el _ _ _ hi]
end Go.Proofs.Ytnedhpodfjlnmaa
