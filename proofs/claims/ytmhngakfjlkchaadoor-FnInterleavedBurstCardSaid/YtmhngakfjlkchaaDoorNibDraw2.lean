/-
  How the laws of blocks draw their lists: what comes out, and what it leaves. Condition: the code has at most 2^20 bytes.
-/
import Derived.Test.YtmhngakfjlkchaaDoorNibDraw
namespace Go.Proofs.YtmhngakfjlkchaaDoor
open Go.RowKit

theorem ints_made (w : World) (n : Nat) : Ints .i64 (w.alloc (.cells (madeCells #[.int .i64 0] n) 3)) (w.heap.size + 1) (some ⟨w.heap.size, 0, none⟩) (zeros n) := fun hne => by
  refine ⟨w.heap.size, 0, rfl, by omega, fun i hi => ?_⟩
  rw [zeros_length] at hi
  rw [Nat.zero_add, (World.rowIs_made w (.int .i64 0) n 3).cell hi, zeros_el]
theorem drawn_made {w w1 : World} {n : Nat} (hb : Below w.heap.size w w1) (hn : n ≤ 1100) : DrawnList w (.returned (.slice (some ⟨w1.heap.size, 0, none⟩) n n)) (w1.alloc (.cells (madeCells #[.int .i64 0] n) 3)) := by
  refine ⟨zeros n, some ⟨w1.heap.size, 0, none⟩, n, by rw [zeros_length], ⟨by rw [zeros_length]; exact hn, by rw [zeros_length]; exact Nat.le_refl _, by unfold maxLen; omega⟩, ?_, hb.alloc hb.size _⟩
  have := ints_made w1 n
  simpa using this
set_option maxHeartbeats 1000000 in
theorem drawEncodeBlocks_any (a : Option Addr) (c : Nat) (ds : List Int) (w : World) (hx : Ints .u8 w w.heap.size a ds) (hw : ∀ n ∈ ds, isByte n) (hc : ds.length ≤ c) (hcm : c ≤ maxLen) :
    Calls Tryd.prog 4 #[.slice a ds.length c] w (DrawnList w) := by
  have hl : ds.length ≤ maxLen := Nat.le_trans hc hcm
  go_enter Tryd.func4, Tryd.ntmps4
  go_wp2_with fail
  refine (open_any a c ds w hx hw hc hl hcm).mono ?_
  rintro e w1 ⟨rfl, r1, b1⟩
  have R1 := Lib.hid r1
  have B1 := Lib.hid b1
  clear hx hw hc hcm hl r1 b1
  go_wp2_with fail
  refine (odd_any w.heap.size 0 14 w1 R1.out (by omega) (by omega) (by omega)).mono ?_
  rintro e w2 ⟨b2, rfl, r2, g2⟩
  have R2 := Lib.hid r2
  have B2 := Lib.hid (below_Rd B1.out g2 (Nat.le_refl _))
  clear r2 g2 R1 B1
  cases b2
  · go_wp2_with fail
    refine (pick_any w.heap.size (0 + 1) 6 w2 R2.out (by omega) (by omega) (by omega)).mono ?_
    rintro e w3 ⟨v3, ⟨hv3, hv3'⟩, rfl, r3, g3⟩
    have R3 := Lib.hid r3
    have B3 := Lib.hid (below_Rd B2.out g3 (Nat.le_refl _))
    clear r3 g3 R2 B2
    go_wp2_with fail
    refine (pick_any w.heap.size (0 + 1 + 1) 9 w3 R3.out (by omega) (by omega) (by omega)).mono ?_
    rintro e w4 ⟨v4, ⟨hv4, hv4'⟩, rfl, r4, g4⟩
    have R4 := Lib.hid r4
    have B4 := Lib.hid (below_Rd B3.out g4 (Nat.le_refl _))
    clear r4 g4 R3 B3
    obtain ⟨n, hn⟩ : ∃ n : Nat, (n : Int) = 4 * v3 + v4 / 8 := ⟨(4 * v3 + v4 / 8).toNat, by omega⟩
    have hn30 : n ≤ 30 := by omega
    have hf := fixed_any w.heap.size (0 + 1 + 1 + 1) n 0 w4 R4.out (by omega) (by omega) (.inl rfl)
    rw [hn] at hf
    have HF := Lib.hid hf
    clear hn hf
    go_wp2_with fail
    refine HF.out.mono ?_
    rintro e w5 h5
    have H5 := Lib.hid (drawn_fix B4.out (Nat.le_refl _) (by omega) h5)
    obtain ⟨xs, ad, m, cap, p', rfl, _⟩ := h5
    go_wp2
    go_ret
    exact H5.out
  · go_wp2_with fail
    refine (pick_any w.heap.size (0 + 1) 2 w2 R2.out (by omega) (by omega) (by omega)).mono ?_
    rintro e w3 ⟨v3, ⟨hv3, hv3'⟩, rfl, r3, g3⟩
    have B3 := Lib.hid (below_Rd B2.out g3 (Nat.le_refl _))
    clear r3 g3 R2 B2
    have hv : v3 = 0 ∨ v3 = 1 := by omega
    clear hv3 hv3'
    rcases hv with rfl | rfl
    · have hmk : ∀ W, (Instr.makeSlice 23 (.int .i64 512) (.int .i64 512)).run Tryd.prog W = .ok (.slice (some ⟨W.heap.size, 0, none⟩) 512 512) (W.alloc (.cells (madeCells #[.int .i64 0] 512) 3)) := run_make_row' (P := Tryd.prog) 23 3 (.int .i64 0) 8 Tryd.underlying23 Tryd.infoInt rfl .i64 .i64 512 (by omega) (by omega)
      go_wp2
      go_ret
      exact drawn_made B3.out (by omega)
    · have hmk : ∀ W, (Instr.makeSlice 23 (.int .i64 516) (.int .i64 516)).run Tryd.prog W = .ok (.slice (some ⟨W.heap.size, 0, none⟩) 516 516) (W.alloc (.cells (madeCells #[.int .i64 0] 516) 3)) := run_make_row' (P := Tryd.prog) 23 3 (.int .i64 0) 8 Tryd.underlying23 Tryd.infoInt rfl .i64 .i64 516 (by omega) (by omega)
      go_wp2
      go_ret
      exact drawn_made B3.out (by omega)
theorem Grow.cellAt {k : IntKind} {t : TypeId} {w : World} {base n cap b i : Nat} {xs : List Int} (h : Grow k t w base (some ⟨b, 0, none⟩) n cap xs) (hi : i < n) : w.cell? ⟨b, i, none⟩ = some (.int k (el xs i)) ∧ w.frozen? ⟨b, i, none⟩ = false := by
  obtain ⟨b', f, e, _, _, hc, hr, hf⟩ := h.row (by omega)
  injection e with e
  injection e with e
  subst e
  exact ⟨by rw [hr.cell (by omega), hf i hi], hr.frozen i⟩
theorem encK_bits {xs : List Int} (hb : xs.all isBit = true) : ∀ k, 4 * k ≤ xs.length → (encK xs k).all isBit = true
  | 0, _ => rfl
  | k + 1, h => by
    rw [encK, List.all_append, encK_bits hb k (by omega), enc_bits (part_length (by omega)) (part_bits hb)]; rfl
theorem encB_bits (xs : List Int) : (encB xs).all isBit = true := by
  unfold encB; split
  · next h => exact encK_bits (bitsOk_all (blkOk_parts h).1) _ (by omega)
  · rfl
theorem encB_len (xs : List Int) : (encB xs).length ≤ 896 := by
  unfold encB; split
  · next h => rw [encK_length]; have := (blkOk_parts h).2.2; omega
  · simp
theorem all_bit {xs : List Int} (h : xs.all isBit = true) {i : Nat} (hi : i < xs.length) : el xs i = 0 ∨ el xs i = 1 := by
  have := List.all_eq_true.1 h _ (el_mem hi)
  simpa [isBit] using this
theorem drawn_grow {w w' : World} {a : Option Addr} {n cap base : Nat} {ys : List Int} (hg : Grow .i64 3 w' base a n cap ys) (hn : n ≤ 1100) (hb : Below w.heap.size w w') : DrawnList w (.returned (.slice a n cap)) w' := by
  have hl := hg.len
  subst hl
  exact ⟨ys, a, cap, rfl, ⟨hn, hg.room⟩, hg.ints, hb⟩
end Go.Proofs.YtmhngakfjlkchaaDoor
