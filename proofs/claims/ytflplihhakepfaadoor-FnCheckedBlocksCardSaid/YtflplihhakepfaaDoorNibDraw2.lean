/-
  How the laws of blocks draw their lists: what comes out, and what it leaves. Condition: the code has at most 2^20 bytes.
-/
import Derived.Test.YtflplihhakepfaaDoorNibDraw
namespace Go.Proofs.YtflplihhakepfaaDoor
open Go.RowKit

theorem ints_made (w : World) (n : Nat) : Ints .i64 (w.alloc (.cells (madeCells #[.int .i64 0] n) 3)) (w.heap.size + 1) (some ⟨w.heap.size, 0, none⟩) (zeros n) := fun hne => by
  refine ⟨w.heap.size, 0, rfl, by omega, fun i hi => ?_⟩
  rw [zeros_length] at hi
  rw [Nat.zero_add, (World.rowIs_made w (.int .i64 0) n 3).cell hi, zeros_el]
theorem drawn_made {w w1 : World} {n : Nat} (hb : Below w.heap.size w w1) (hn : n ≤ 1100) : DrawnList w (.returned (.slice (some ⟨w1.heap.size, 0, none⟩) n n)) (w1.alloc (.cells (madeCells #[.int .i64 0] n) 3)) := by
  refine ⟨zeros n, some ⟨w1.heap.size, 0, none⟩, n, by rw [zeros_length], ⟨by rw [zeros_length]; exact hn, by rw [zeros_length]; exact Nat.le_refl _, by unfold maxLen; omega⟩, ?_, hb.alloc hb.size _⟩
  have := ints_made w1 n
  simpa using this
set_option maxHeartbeats 1000000 in
theorem drawEncodeBlocks_any (a : Option Addr) (c : Nat) (ds : List Int) (w : World) (hx : Ints .u8 w w.heap.size a ds) (hw : ∀ n ∈ ds, isByte n) (hc : ds.length ≤ c) (hcm : c ≤ maxLen) :
    Calls Tryd.prog 23 #[.slice a ds.length c] w (DrawnList w) := by
  have hl : ds.length ≤ maxLen := Nat.le_trans hc hcm
  go_enter Tryd.func23, Tryd.ntmps23
  go_wp2_with fail
  refine (open_any a c ds w hx hw hc hl hcm).mono ?_
  rintro e w1 ⟨rfl, r1, b1⟩
  have R1 := Lib.hid r1
  have B1 := Lib.hid b1
  clear hx hw hc hcm hl r1 b1
  go_wp2_with fail
  refine (odd_any w.heap.size 0 14 w1 R1.out (by omega) (by omega) (by omega)).mono ?_
  rintro e w2 ⟨b2, rfl, r2, g2⟩
  have R2 := Lib.hid r2
  have B2 := Lib.hid (below_Rd B1.out g2 (Nat.le_refl _))
  clear r2 g2 R1 B1
  cases b2
  · go_wp2_with fail
    refine (pick_any w.heap.size (0 + 1) 6 w2 R2.out (by omega) (by omega) (by omega)).mono ?_
    rintro e w3 ⟨v3, ⟨hv3, hv3'⟩, rfl, r3, g3⟩
    have R3 := Lib.hid r3
    have B3 := Lib.hid (below_Rd B2.out g3 (Nat.le_refl _))
    clear r3 g3 R2 B2
    go_wp2_with fail
    refine (pick_any w.heap.size (0 + 1 + 1) 9 w3 R3.out (by omega) (by omega) (by omega)).mono ?_
    rintro e w4 ⟨v4, ⟨hv4, hv4'⟩, rfl, r4, g4⟩
    have R4 := Lib.hid r4
    have B4 := Lib.hid (below_Rd B3.out g4 (Nat.le_refl _))
    clear r4 g4 R3 B3
    obtain ⟨n, hn⟩ : ∃ n : Nat, (n : Int) = 4 * v3 + v4 / 8 := ⟨(4 * v3 + v4 / 8).toNat, by omega⟩
    have hn30 : n ≤ 30 := by omega
    have hf := fixed_any w.heap.size (0 + 1 + 1 + 1) n 0 w4 R4.out (by omega) (by omega) (.inl rfl)
    rw [hn] at hf
    have HF := Lib.hid hf
    clear hn hf
    go_wp2_with fail
    refine HF.out.mono ?_
    rintro e w5 h5
    have H5 := Lib.hid (drawn_fix B4.out (Nat.le_refl _) (by omega) h5)
    obtain ⟨xs, ad, m, cap, p', rfl, _⟩ := h5
    go_wp2
    go_ret
    exact H5.out
  · go_wp2_with fail
    refine (pick_any w.heap.size (0 + 1) 2 w2 R2.out (by omega) (by omega) (by omega)).mono ?_
    rintro e w3 ⟨v3, ⟨hv3, hv3'⟩, rfl, r3, g3⟩
    have B3 := Lib.hid (below_Rd B2.out g3 (Nat.le_refl _))
    clear r3 g3 R2 B2
    have hv : v3 = 0 ∨ v3 = 1 := by omega
    clear hv3 hv3'
    rcases hv with rfl | rfl
    · have hmk : ∀ W, (Instr.makeSlice 23 (.int .i64 512) (.int .i64 512)).run Tryd.prog W = .ok (.slice (some ⟨W.heap.size, 0, none⟩) 512 512) (W.alloc (.cells (madeCells #[.int .i64 0] 512) 3)) := run_make_row' (P := Tryd.prog) 23 3 (.int .i64 0) 8 Tryd.underlying23 Tryd.infoInt rfl .i64 .i64 512 (by omega) (by omega)
      go_wp2
      go_ret
      exact drawn_made B3.out (by omega)
    · have hmk : ∀ W, (Instr.makeSlice 23 (.int .i64 516) (.int .i64 516)).run Tryd.prog W = .ok (.slice (some ⟨W.heap.size, 0, none⟩) 516 516) (W.alloc (.cells (madeCells #[.int .i64 0] 516) 3)) := run_make_row' (P := Tryd.prog) 23 3 (.int .i64 0) 8 Tryd.underlying23 Tryd.infoInt rfl .i64 .i64 516 (by omega) (by omega)
      go_wp2
      go_ret
      exact drawn_made B3.out (by omega)
theorem Grow.cellAt {k : IntKind} {t : TypeId} {w : World} {base n cap b i : Nat} {xs : List Int} (h : Grow k t w base (some ⟨b, 0, none⟩) n cap xs) (hi : i < n) : w.cell? ⟨b, i, none⟩ = some (.int k (el xs i)) ∧ w.frozen? ⟨b, i, none⟩ = false := by
  obtain ⟨b', f, e, _, _, hc, hr, hf⟩ := h.row (by omega)
  injection e with e
  injection e with e
  subst e
  exact ⟨by rw [hr.cell (by omega), hf i hi], hr.frozen i⟩
theorem encK_bits {xs : List Int} (hb : xs.all isBit = true) : ∀ k, 4 * k ≤ xs.length → (encK xs k).all isBit = true
  | 0, _ => rfl
  | k + 1, h => by
    rw [encK, List.all_append, encK_bits hb k (by omega), enc_bits (part_length (by omega)) (part_bits hb)]; rfl
theorem encB_bits (xs : List Int) : (encB xs).all isBit = true := by
  unfold encB; split
  · next h => exact encK_bits (bitsOk_all (blkOk_parts h).1) _ (by omega)
  · rfl
theorem encB_len (xs : List Int) : (encB xs).length ≤ 896 := by
  unfold encB; split
  · next h => rw [encK_length]; have := (blkOk_parts h).2.2; omega
  · simp
theorem all_bit {xs : List Int} (h : xs.all isBit = true) {i : Nat} (hi : i < xs.length) : el xs i = 0 ∨ el xs i = 1 := by
  have := List.all_eq_true.1 h _ (el_mem hi)
  simpa [isBit] using this
theorem drawn_grow {w w' : World} {a : Option Addr} {n cap base : Nat} {ys : List Int} (hg : Grow .i64 3 w' base a n cap ys) (hn : n ≤ 1100) (hb : Below w.heap.size w w') : DrawnList w (.returned (.slice a n cap)) w' := by
  have hl := hg.len
  subst hl
  exact ⟨ys, a, cap, rfl, ⟨hn, hg.room⟩, hg.ints, hb⟩
set_option maxHeartbeats 2000000 in
theorem drawDecodeBlocks_any (a : Option Addr) (c : Nat) (ds : List Int) (w : World) (hx : Ints .u8 w w.heap.size a ds) (hw : ∀ n ∈ ds, isByte n) (hc : ds.length ≤ c) (hcm : c ≤ maxLen) :
    Calls Tryd.prog 27 #[.slice a ds.length c] w (DrawnList w) := by
  have hl : ds.length ≤ maxLen := Nat.le_trans hc hcm
  go_enter Tryd.func27, Tryd.ntmps27
  go_wp2_with fail
  refine (open_any a c ds w hx hw hc hl hcm).mono ?_
  rintro e w1 ⟨rfl, r1, b1⟩
  have R1 := Lib.hid r1
  have B1 := Lib.hid b1
  clear hx hw hc hcm hl r1 b1
  go_wp2_with fail
  refine (pick_any w.heap.size 0 6 w1 R1.out (by omega) (by omega) (by omega)).mono ?_
  rintro e w3 ⟨v3, ⟨hv3, hv3'⟩, rfl, r3, g3⟩
  have R3 := Lib.hid r3
  have B3 := Lib.hid (below_Rd B1.out g3 (Nat.le_refl _))
  have hR3 : w.heap.size < w3.heap.size := r3.lt
  clear r3 g3 R1 B1
  obtain ⟨n, hn⟩ : ∃ n : Nat, (n : Int) = 4 * v3 := ⟨(4 * v3).toNat, by omega⟩
  have hn30 : n ≤ 30 := by omega
  have hf := fixed_any w.heap.size (0 + 1) n 0 w3 R3.out (by omega) (by omega) (.inl rfl)
  rw [hn] at hf
  have HF := Lib.hid hf
  clear hn hf
  go_wp2_with fail
  refine HF.out.mono ?_
  rintro e w5 ⟨xs, ad, m, cap, p5, rfl, hm, _, hg5, r5, hp5, gn5⟩
  have R5 := Lib.hid r5
  have B5 := Lib.hid (below_Rd B3.out gn5 (Nat.le_refl _))
  have hR5 : w.heap.size < w5.heap.size := r5.lt
  have hm5 := hg5.len
  have hr5 := hg5.room
  have I5 := Lib.hid hg5.ints
  subst hm5
  clear hg5 r5 gn5 HF R3 B3
  go_wp2_with fail
  refine (specEncodeBlocks_grow (some ad) cap xs w5 I5.out hr5.1 (by unfold maxLen; omega)).mono ?_
  have HEb := Lib.hid (encB_bits xs)
  have hEl := encB_len xs
  generalize encB xs = E at *
  rintro e w6 ⟨a6, n6, cap6, rfl, hg6, hb6⟩
  have hl6 := hg6.len
  have hn6 : n6 ≤ 896 := by omega
  have G6 := Lib.hid hg6
  have R6 := Lib.hid (R5.out.below hb6 hR5)
  have B6 := Lib.hid (Below.next B5.out (Nat.le_refl _) hb6)
  have s56 : w5.heap.size ≤ w6.heap.size := hb6.size
  clear hg6 hb6 hl6 hEl I5 hr5
  go_wp2
  go_loopw [5] (fun i wr => ∃ (k p' : Nat) (ys : List Int), k ≤ n6 ∧ i = .int .i64 k ∧ ys.all isBit = true ∧ Grow .i64 3 wr w5.heap.size a6 n6 cap6 ys ∧ Rd wr w.heap.size p' ∧ p' ≤ 100 + k ∧ Below w.heap.size w wr ∧ w5.heap.size ≤ wr.heap.size) (fun i _ => n6 - (intOf i).toNat)
  case atStart => exact ⟨0, p5, E, Nat.zero_le _, rfl, HEb.out, G6.out, R6.out, by omega, B6.out, s56⟩
  case round =>
    obtain ⟨k, p', ys, hk, rfl, hys, hgr, hrd, hp', hbe, hsz⟩ := hrel
    have HG := Lib.hid hgr
    have HY := Lib.hid hys
    have HR := Lib.hid hrd
    have HB := Lib.hid hbe
    clear hgr hys hrd hbe
    by_cases hlt : k < n6
    · go_wp2_with fail
      refine (pick_any w.heap.size p' 9 wr HR.out (by omega) (by omega) (by omega)).mono ?_
      rintro e w7 ⟨v7, ⟨hv7, hv7'⟩, rfl, r7, g7⟩
      have R7 := Lib.hid r7
      have B7 := Lib.hid (below_Rd HB.out g7 (Nat.le_refl _))
      have G7 := Lib.hid (HG.out.grownR g7 hR5)
      have s7 : w5.heap.size ≤ w7.heap.size := by have := g7.size; omega
      clear r7 g7
      by_cases hz : v7 = 0
      · subst hz
        obtain ⟨b, f, rfl, hbb, _⟩ := G7.out.row (by omega)
        obtain ⟨hc, hfz⟩ := G7.out.cellAt hlt
        have hlen := G7.out.len
        have h01 := all_bit HY.out (i := k) (by omega)
        have HY2 := Lib.hid (set_bits HY.out (i := k) (by omega))
        obtain ⟨x, hxx⟩ : ∃ x, x = el ys k := ⟨_, rfl⟩
        rw [← hxx] at hc h01 HY2
        have hx0 : 0 ≤ x := by omega
        have hx1 : x ≤ 1 := by omega
        have B8 := Lib.hid (B7.out.setCell (p := ⟨b, k, none⟩) (by show w.heap.size ≤ b; omega) (.int .i64 (1 - x)))
        have G8 := Lib.hid (G7.out.set k (1 - x))
        have R8 := Lib.hid (R7.out.below ((Below.refl (w.heap.size + 1) w7).setCell (p := ⟨b, k, none⟩) (by show w.heap.size + 1 ≤ b; omega) (.int .i64 (1 - x))) (by omega))
        clear hxx h01 hlen
        go_wp2
        go_roundw
        case rel => exact ⟨k + 1, p' + 1, _, by omega, by go_num, HY2.out, G8.out, R8.out, by omega, B8.out, by simpa [World.setCell] using s7⟩
        case measure => simp [intOf]; omega
      · have hzb : (v7 == 0) = false := by simp [hz]
        clear hz
        go_wp2
        go_roundw
        case rel => exact ⟨k + 1, p' + 1, ys, by omega, by go_num, HY.out, G7.out, R7.out, by omega, B7.out, s7⟩
        case measure => simp [intOf]; omega
    · go_wp2_with fail
      refine (odd_any w.heap.size p' 9 wr HR.out (by omega) (by omega) (by omega)).mono ?_
      rintro e w7 ⟨b7, rfl, r7, g7⟩
      have R7 := Lib.hid r7
      have B7 := Lib.hid (below_Rd HB.out g7 (Nat.le_refl _))
      have G7 := Lib.hid (HG.out.grownR g7 hR5)
      have s7 : w5.heap.size ≤ w7.heap.size := by have := g7.size; omega
      clear r7 g7
      cases b7
      · go_wp2
        go_ret
        exact drawn_grow G7.out (by omega) B7.out
      · go_wp2_with fail
        refine (pick_any w.heap.size (p' + 1) 3 w7 R7.out (by omega) (by omega) (by omega)).mono ?_
        rintro e w8 ⟨v8, ⟨hv8, hv8'⟩, rfl, r8, g8⟩
        have B8 := Lib.hid (below_Rd B7.out g8 (Nat.le_refl _))
        have G8 := Lib.hid (G7.out.grownR g8 hR5)
        have hs8 : w5.heap.size ≤ w8.heap.size := by have := g8.size; omega
        clear r8 g8
        go_wp2_with (at_builtin; refine wpList_append1 (.tmp 33) (.tmp 36) w5.heap.size a6 n6 cap6 ys ⟨w8.heap.size, 0, none⟩ v8 rfl rfl rfl rfl (G8.out.alloc _) (by simp) (by omega) (by simp; omega) ?_; intro a9 cap9 w9 hg9 hb9; have HG9 := Lib.hid hg9; have HB9 := Lib.hid hb9; clear hg9 hb9)
        go_ret
        exact drawn_grow HG9.out (by omega) (Below.trans (B8.out.alloc B8.out.size _) (HB9.out.mono (by omega)))
end Go.Proofs.YtflplihhakepfaaDoor
