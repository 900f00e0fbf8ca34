/-
  How the laws of chapter 3 draw taps, a seed and a number: what comes out, and what it leaves.
-/
import Derived.Test.YtamfjmfffpdcfaaRegDraw
namespace Go.Proofs.Ytamfjmfffpdcfaa
open Go.RowKit

/-- Drawn taps, a drawn seed and a drawn number. -/
def TapsThree (w : World) (e : Ending) (w' : World) : Prop :=
  ∃ g s n : Int, (-10 ≤ g ∧ g ≤ 131073) ∧ (0 ≤ s ∧ s ≤ 65536) ∧ e = .returned (.tuple #[.int .i64 g, .int .i64 s, .int .i64 n]) ∧ Below w.heap.size w w'
/-- Block b, not R, holds seven indices below 3. -/
def Seven (W : World) (R b : Nat) : Prop := b < W.heap.size ∧ b ≠ R ∧ ∀ k, k < 7 → ∃ i : Nat, i < 3 ∧ W.cell? ⟨b, k, none⟩ = some (.int .i64 (i : Int))
/-- Block b, not R, holds three numbers. -/
def Three (W : World) (R b : Nat) : Prop := b < W.heap.size ∧ b ≠ R ∧ ∀ k, k < 3 → ∃ y : Int, W.cell? ⟨b, k, none⟩ = some (.int .i64 y)
section
variable {W W' : World} {R b : Nat}
theorem Seven.grown (h : Seven W R b) (g : W.grownBy W' (some R)) : Seven W' R b :=
  ⟨Nat.lt_of_lt_of_le h.1 g.size, h.2.1, fun k hk => by rw [World.cell?_of_block (g.block b h.1 (fun e => h.2.1 (by injection e)))]; exact h.2.2 k hk⟩
theorem Three.grown (h : Three W R b) (g : W.grownBy W' (some R)) : Three W' R b :=
  ⟨Nat.lt_of_lt_of_le h.1 g.size, h.2.1, fun k hk => by rw [World.cell?_of_block (g.block b h.1 (fun e => h.2.1 (by injection e)))]; exact h.2.2 k hk⟩
theorem Seven.alloc (h : Seven W R b) (o : Obj) : Seven (W.alloc o) R b := h.grown (World.grownBy_alloc W o (some R))
theorem Three.alloc (h : Three W R b) (o : Obj) : Three (W.alloc o) R b := h.grown (World.grownBy_alloc W o (some R))
end
theorem seven_new (W : World) {R : Nat} (hR : R < W.heap.size) : Seven (W.alloc (.cells #[.int .i64 0, .int .i64 0, .int .i64 0, .int .i64 0, .int .i64 0, .int .i64 1, .int .i64 2] 3)) R W.heap.size :=
  ⟨by simp, by omega, fun k hk => by
    rw [cell_of_row _ _ _ _ _ _ (heap_alloc_last W _)]
    match k, hk with
    | 0, _ | 1, _ | 2, _ | 3, _ | 4, _ => exact ⟨0, by omega, rfl⟩
    | 5, _ => exact ⟨1, by omega, rfl⟩
    | 6, _ => exact ⟨2, by omega, rfl⟩
    | (m + 7), h => exact absurd h (by omega)⟩
theorem three_new (W : World) (x : Int) {R : Nat} (hR : R < W.heap.size) : Three (W.alloc (.cells #[.int .i64 x, .int .i64 (-1), .int .i64 1025] 3)) R W.heap.size :=
  ⟨by simp, by omega, fun k hk => by
    rw [cell_of_row _ _ _ _ _ _ (heap_alloc_last W _)]
    match k, hk with
    | 0, _ => exact ⟨x, rfl⟩
    | 1, _ => exact ⟨-1, rfl⟩
    | 2, _ => exact ⟨1025, rfl⟩
    | (m + 3), h => exact absurd h (by omega)⟩

set_option maxRecDepth 100000 in
set_option maxHeartbeats 8000000 in
theorem drawShiftBits_any (a : Option Addr) (c : Nat) (ds : List Int) (w : World) (hx : Ints .u8 w w.heap.size a ds) (hw : ∀ n ∈ ds, isByte n) (hc : ds.length ≤ c) (hcm : c ≤ maxLen) :
    Calls Try.prog 13 #[.slice a ds.length c] w (TapsThree w) := by
  have hl : ds.length ≤ maxLen := Nat.le_trans hc hcm
  go_enter Try.func13, Try.ntmps13
  go_wp2_with fail
  refine (open_any a c ds w hx hw hc hl hcm).mono ?_
  rintro e w1 ⟨rfl, r1, b1⟩
  have R1 := Lib.hid r1
  have B1 := Lib.hid b1
  clear hx hw hc hcm hl r1 b1
  go_wp2_with fail
  refine (taps_any w.heap.size 0 12 w1 R1.out (by omega) (by omega) (by omega)).mono ?_
  rintro e w2 ⟨g, s, hg, hs, rfl, p2, hp2, r2, g2⟩
  have HG := Lib.hid hg
  have HS := Lib.hid hs
  have RD0' := Lib.hid r2
  have BE0' := Lib.hid (below_R B1.out g2)
  clear hg hs r2 g2 R1 B1
  go_wp2_with fail
  refine wp_region_any (by kernel_rfl) ?_
  change wpAny _ _ _ _ _ _ _ (World.drew _)
  have RD0 : Hid (Rd w2.drew w.heap.size p2) := RD0'.out
  have BE0 : Hid (Below w.heap.size w w2.drew) := below_drewN BE0'.out 1
  have hR0 : w.heap.size < w2.drew.heap.size := RD0.out.lt
  clear RD0' BE0'
  generalize w2.drew = u0 at RD0 BE0 hR0 ⊢
  refine wpAny_take (i := 0) (v := ?v1) rfl (by kernel_rfl) (by kernel_rfl) (by kernel_rfl) (fun _ _ _ h => h) (Or.inl ⟨by kernel_rfl, ?h1⟩) ?_
  case h1 => intro w; go_simp; try with_reducible rfl
  go_simp
  refine wpAny_take (i := 1) (v := ?v2) rfl (by kernel_rfl) (by kernel_rfl) (by kernel_rfl) (fun _ _ _ h => h) (Or.inl ⟨by kernel_rfl, ?h2⟩) ?_
  case h2 => intro w; go_simp; try with_reducible rfl
  go_simp
  refine wpAny_take (i := 2) (v := ?v3) rfl (by kernel_rfl) (by kernel_rfl) (by kernel_rfl) (fun _ _ _ h => h) (Or.inl ⟨by kernel_rfl, ?h3⟩) ?_
  case h3 => intro w; go_simp; try with_reducible rfl
  go_simp
  refine wpAny_take (i := 6) (v := ?v4) rfl (by kernel_rfl) (by kernel_rfl) (by kernel_rfl) (fun _ _ _ h => h) (Or.inl ⟨by kernel_rfl, ?h4⟩) ?_
  case h4 => intro w; go_simp; try with_reducible rfl
  go_simp
  refine wpAny_ready (rs := [3, 5]) (by kernel_rfl) (by simp) (AllReady.cons rfl (fun K hK => ?_) (AllReady.cons rfl (fun K hK => ?_) AllReady.nil))
  · skip
    go_simp
    refine (pick_any w.heap.size p2 40 u0 RD0.out (by omega) (by omega) (by omega)).mono ?_
    rintro e u5 ⟨x5, ⟨hx5, hy5⟩, rfl, r5, g5⟩
    have RD5 := Lib.hid r5
    have BE5 := Lib.hid (below_R BE0.out g5)
    have hR5 : w.heap.size < u5.heap.size := r5.lt
    clear r5 g5
    go_simp
    refine hK _ _ ?_
    clear hK K
    refine wpAny_ready (rs := [4, 5, 7]) (by kernel_rfl) (by simp) (AllReady.cons rfl (fun K hK => ?_) (AllReady.cons rfl (fun K hK => ?_) (AllReady.cons rfl (fun K hK => ?_) AllReady.nil)))
    · skip
      go_simp
      refine hK _ _ ?_
      clear hK K
      have RD6 := Lib.hid (RD5.out.alloc (.cells #[.int .i64 x5, .int .i64 (-1), .int .i64 1025] 3))
      have BE6 := Lib.hid (BE5.out.alloc BE5.out.size (.cells #[.int .i64 x5, .int .i64 (-1), .int .i64 1025] 3))
      have hR6 : w.heap.size < (u5.alloc (.cells #[.int .i64 x5, .int .i64 (-1), .int .i64 1025] 3)).heap.size := RD6.out.lt
      have C36 := Lib.hid (three_new u5 x5 hR5)
      generalize u5.alloc (.cells #[.int .i64 x5, .int .i64 (-1), .int .i64 1025] 3) = u6 at RD6 BE6 hR6 C36 ⊢
      refine wpAny_ready (rs := [5, 7]) (by kernel_rfl) (by simp) (AllReady.cons rfl (fun K hK => ?_) (AllReady.cons rfl (fun K hK => ?_) AllReady.nil))
      · skip
        go_simp
        refine hK _ _ ?_
        clear hK K
        have RD7 := Lib.hid (RD6.out.alloc (.cells #[.int .i64 0, .int .i64 0, .int .i64 0, .int .i64 0, .int .i64 0, .int .i64 1, .int .i64 2] 3))
        have BE7 := Lib.hid (BE6.out.alloc BE6.out.size (.cells #[.int .i64 0, .int .i64 0, .int .i64 0, .int .i64 0, .int .i64 0, .int .i64 1, .int .i64 2] 3))
        have hR7 : w.heap.size < (u6.alloc (.cells #[.int .i64 0, .int .i64 0, .int .i64 0, .int .i64 0, .int .i64 0, .int .i64 1, .int .i64 2] 3)).heap.size := RD7.out.lt
        have C77 := Lib.hid (seven_new u6 hR6)
        have C37 := Lib.hid (C36.out.alloc (.cells #[.int .i64 0, .int .i64 0, .int .i64 0, .int .i64 0, .int .i64 0, .int .i64 1, .int .i64 2] 3))
        generalize u6.alloc (.cells #[.int .i64 0, .int .i64 0, .int .i64 0, .int .i64 0, .int .i64 0, .int .i64 1, .int .i64 2] 3) = u7 at RD7 BE7 hR7 C77 C37 ⊢
        refine wpAny_ready (rs := [7]) (by kernel_rfl) (by simp) (AllReady.cons rfl (fun K hK => ?_) AllReady.nil)
        go_simp
        refine (pick_any w.heap.size (p2 + 1) 7 u7 RD7.out (by omega) (by omega) (by omega)).mono ?_
        rintro e u8 ⟨x8, ⟨hx8, hy8⟩, rfl, r8, g8⟩
        have RD8 := Lib.hid r8
        have BE8 := Lib.hid (below_R BE7.out g8)
        have hR8 : w.heap.size < u8.heap.size := r8.lt
        have C78 := Lib.hid (C77.out.grown g8)
        have C38 := Lib.hid (C37.out.grown g8)
        clear r8 g8
        go_simp
        refine hK _ _ ?_
        clear hK K
        obtain ⟨k7, rfl⟩ := Int.eq_ofNat_of_zero_le hx8
        have hk7 : k7 < 7 := by omega
        have hk7' : (k7 : Int) < 7 := by omega
        refine wpAny_take (i := 12) (v := ?v9) rfl (by kernel_rfl) (by kernel_rfl) (by kernel_rfl) (fun _ _ _ h => h) (Or.inl ⟨by kernel_rfl, ?h9⟩) ?_
        case h9 => intro w; go_simp; try with_reducible rfl
        go_simp
        refine wpAny_take (i := 13) (v := ?v10) rfl (by kernel_rfl) (by kernel_rfl) (by kernel_rfl) (fun _ _ _ h => h) (Or.inl ⟨by kernel_rfl, ?h10⟩) ?_
        case h10 => intro w; go_simp; try with_reducible rfl
        go_simp
        refine wpAny_take (i := 8) (v := ?v11) rfl (by kernel_rfl) (by kernel_rfl) (by kernel_rfl) (fun _ _ _ h => h) (Or.inl ⟨by kernel_rfl, ?h11⟩) ?_
        case h11 => intro w; go_simp; try with_reducible rfl
        go_simp
        refine wpAny_ready (rs := [9]) (by kernel_rfl) (by simp) (AllReady.cons rfl (fun K hK => ?_) AllReady.nil)
        go_simp
        obtain ⟨i7, hi7, hc7⟩ := C78.out.2.2 k7 hk7
        have hi7' : (i7 : Int) < 3 := by omega
        go_simp
        refine hK _ _ ?_
        clear hK K hc7
        refine wpAny_take (i := 10) (v := ?v13) rfl (by kernel_rfl) (by kernel_rfl) (by kernel_rfl) (fun _ _ _ h => h) (Or.inl ⟨by kernel_rfl, ?h13⟩) ?_
        case h13 => intro w; go_simp; try with_reducible rfl
        go_simp
        refine wpAny_ready (rs := [11]) (by kernel_rfl) (by simp) (AllReady.cons rfl (fun K hK => ?_) AllReady.nil)
        go_simp
        obtain ⟨y, hy⟩ := C38.out.2.2 i7 hi7
        go_simp
        refine hK _ _ ?_
        clear hK K hy
        refine wpAny_take (i := 14) (v := ?v15) rfl (by kernel_rfl) (by kernel_rfl) (by kernel_rfl) (fun _ _ _ h => h) (Or.inl ⟨by kernel_rfl, ?h15⟩) ?_
        case h15 => intro w; go_simp; try with_reducible rfl
        go_simp
        refine wpAny_done (by kernel_rfl) ?_ _
        go_wp2
        go_ret3
        exact ⟨g, s, y, HG.out, HS.out, rfl, BE8.out⟩
      · skip
        go_simp
        refine (pick_any w.heap.size (p2 + 1) 7 u6 RD6.out (by omega) (by omega) (by omega)).mono ?_
        rintro e u16 ⟨x16, ⟨hx16, hy16⟩, rfl, r16, g16⟩
        have RD16 := Lib.hid r16
        have BE16 := Lib.hid (below_R BE6.out g16)
        have hR16 : w.heap.size < u16.heap.size := r16.lt
        have C316 := Lib.hid (C36.out.grown g16)
        clear r16 g16
        go_simp
        refine hK _ _ ?_
        clear hK K
        obtain ⟨k7, rfl⟩ := Int.eq_ofNat_of_zero_le hx16
        have hk7 : k7 < 7 := by omega
        have hk7' : (k7 : Int) < 7 := by omega
        refine wpAny_take (i := 12) (v := ?v17) rfl (by kernel_rfl) (by kernel_rfl) (by kernel_rfl) (fun _ _ _ h => h) (Or.inl ⟨by kernel_rfl, ?h17⟩) ?_
        case h17 => intro w; go_simp; try with_reducible rfl
        go_simp
        refine wpAny_take (i := 13) (v := ?v18) rfl (by kernel_rfl) (by kernel_rfl) (by kernel_rfl) (fun _ _ _ h => h) (Or.inl ⟨by kernel_rfl, ?h18⟩) ?_
        case h18 => intro w; go_simp; try with_reducible rfl
        go_simp
        refine wpAny_ready (rs := [5]) (by kernel_rfl) (by simp) (AllReady.cons rfl (fun K hK => ?_) AllReady.nil)
        go_simp
        refine hK _ _ ?_
        clear hK K
        have RD19 := Lib.hid (RD16.out.alloc (.cells #[.int .i64 0, .int .i64 0, .int .i64 0, .int .i64 0, .int .i64 0, .int .i64 1, .int .i64 2] 3))
        have BE19 := Lib.hid (BE16.out.alloc BE16.out.size (.cells #[.int .i64 0, .int .i64 0, .int .i64 0, .int .i64 0, .int .i64 0, .int .i64 1, .int .i64 2] 3))
        have hR19 : w.heap.size < (u16.alloc (.cells #[.int .i64 0, .int .i64 0, .int .i64 0, .int .i64 0, .int .i64 0, .int .i64 1, .int .i64 2] 3)).heap.size := RD19.out.lt
        have C719 := Lib.hid (seven_new u16 hR16)
        have C319 := Lib.hid (C316.out.alloc (.cells #[.int .i64 0, .int .i64 0, .int .i64 0, .int .i64 0, .int .i64 0, .int .i64 1, .int .i64 2] 3))
        generalize u16.alloc (.cells #[.int .i64 0, .int .i64 0, .int .i64 0, .int .i64 0, .int .i64 0, .int .i64 1, .int .i64 2] 3) = u19 at RD19 BE19 hR19 C719 C319 ⊢
        refine wpAny_take (i := 8) (v := ?v20) rfl (by kernel_rfl) (by kernel_rfl) (by kernel_rfl) (fun _ _ _ h => h) (Or.inl ⟨by kernel_rfl, ?h20⟩) ?_
        case h20 => intro w; go_simp; try with_reducible rfl
        go_simp
        refine wpAny_ready (rs := [9]) (by kernel_rfl) (by simp) (AllReady.cons rfl (fun K hK => ?_) AllReady.nil)
        go_simp
        obtain ⟨i7, hi7, hc7⟩ := C719.out.2.2 k7 hk7
        have hi7' : (i7 : Int) < 3 := by omega
        go_simp
        refine hK _ _ ?_
        clear hK K hc7
        refine wpAny_take (i := 10) (v := ?v22) rfl (by kernel_rfl) (by kernel_rfl) (by kernel_rfl) (fun _ _ _ h => h) (Or.inl ⟨by kernel_rfl, ?h22⟩) ?_
        case h22 => intro w; go_simp; try with_reducible rfl
        go_simp
        refine wpAny_ready (rs := [11]) (by kernel_rfl) (by simp) (AllReady.cons rfl (fun K hK => ?_) AllReady.nil)
        go_simp
        obtain ⟨y, hy⟩ := C319.out.2.2 i7 hi7
        go_simp
        refine hK _ _ ?_
        clear hK K hy
        refine wpAny_take (i := 14) (v := ?v24) rfl (by kernel_rfl) (by kernel_rfl) (by kernel_rfl) (fun _ _ _ h => h) (Or.inl ⟨by kernel_rfl, ?h24⟩) ?_
        case h24 => intro w; go_simp; try with_reducible rfl
        go_simp
        refine wpAny_done (by kernel_rfl) ?_ _
        go_wp2
        go_ret3
        exact ⟨g, s, y, HG.out, HS.out, rfl, BE19.out⟩
    · skip
      go_simp
      refine hK _ _ ?_
      clear hK K
      have RD25 := Lib.hid (RD5.out.alloc (.cells #[.int .i64 0, .int .i64 0, .int .i64 0, .int .i64 0, .int .i64 0, .int .i64 1, .int .i64 2] 3))
      have BE25 := Lib.hid (BE5.out.alloc BE5.out.size (.cells #[.int .i64 0, .int .i64 0, .int .i64 0, .int .i64 0, .int .i64 0, .int .i64 1, .int .i64 2] 3))
      have hR25 : w.heap.size < (u5.alloc (.cells #[.int .i64 0, .int .i64 0, .int .i64 0, .int .i64 0, .int .i64 0, .int .i64 1, .int .i64 2] 3)).heap.size := RD25.out.lt
      have C725 := Lib.hid (seven_new u5 hR5)
      generalize u5.alloc (.cells #[.int .i64 0, .int .i64 0, .int .i64 0, .int .i64 0, .int .i64 0, .int .i64 1, .int .i64 2] 3) = u25 at RD25 BE25 hR25 C725 ⊢
      refine wpAny_ready (rs := [4, 7]) (by kernel_rfl) (by simp) (AllReady.cons rfl (fun K hK => ?_) (AllReady.cons rfl (fun K hK => ?_) AllReady.nil))
      · skip
        go_simp
        refine hK _ _ ?_
        clear hK K
        have RD26 := Lib.hid (RD25.out.alloc (.cells #[.int .i64 x5, .int .i64 (-1), .int .i64 1025] 3))
        have BE26 := Lib.hid (BE25.out.alloc BE25.out.size (.cells #[.int .i64 x5, .int .i64 (-1), .int .i64 1025] 3))
        have hR26 : w.heap.size < (u25.alloc (.cells #[.int .i64 x5, .int .i64 (-1), .int .i64 1025] 3)).heap.size := RD26.out.lt
        have C326 := Lib.hid (three_new u25 x5 hR25)
        have C726 := Lib.hid (C725.out.alloc (.cells #[.int .i64 x5, .int .i64 (-1), .int .i64 1025] 3))
        generalize u25.alloc (.cells #[.int .i64 x5, .int .i64 (-1), .int .i64 1025] 3) = u26 at RD26 BE26 hR26 C726 C326 ⊢
        refine wpAny_ready (rs := [7]) (by kernel_rfl) (by simp) (AllReady.cons rfl (fun K hK => ?_) AllReady.nil)
        go_simp
        refine (pick_any w.heap.size (p2 + 1) 7 u26 RD26.out (by omega) (by omega) (by omega)).mono ?_
        rintro e u27 ⟨x27, ⟨hx27, hy27⟩, rfl, r27, g27⟩
        have RD27 := Lib.hid r27
        have BE27 := Lib.hid (below_R BE26.out g27)
        have hR27 : w.heap.size < u27.heap.size := r27.lt
        have C727 := Lib.hid (C726.out.grown g27)
        have C327 := Lib.hid (C326.out.grown g27)
        clear r27 g27
        go_simp
        refine hK _ _ ?_
        clear hK K
        obtain ⟨k7, rfl⟩ := Int.eq_ofNat_of_zero_le hx27
        have hk7 : k7 < 7 := by omega
        have hk7' : (k7 : Int) < 7 := by omega
        refine wpAny_take (i := 12) (v := ?v28) rfl (by kernel_rfl) (by kernel_rfl) (by kernel_rfl) (fun _ _ _ h => h) (Or.inl ⟨by kernel_rfl, ?h28⟩) ?_
        case h28 => intro w; go_simp; try with_reducible rfl
        go_simp
        refine wpAny_take (i := 13) (v := ?v29) rfl (by kernel_rfl) (by kernel_rfl) (by kernel_rfl) (fun _ _ _ h => h) (Or.inl ⟨by kernel_rfl, ?h29⟩) ?_
        case h29 => intro w; go_simp; try with_reducible rfl
        go_simp
        refine wpAny_take (i := 8) (v := ?v30) rfl (by kernel_rfl) (by kernel_rfl) (by kernel_rfl) (fun _ _ _ h => h) (Or.inl ⟨by kernel_rfl, ?h30⟩) ?_
        case h30 => intro w; go_simp; try with_reducible rfl
        go_simp
        refine wpAny_ready (rs := [9]) (by kernel_rfl) (by simp) (AllReady.cons rfl (fun K hK => ?_) AllReady.nil)
        go_simp
        obtain ⟨i7, hi7, hc7⟩ := C727.out.2.2 k7 hk7
        have hi7' : (i7 : Int) < 3 := by omega
        go_simp
        refine hK _ _ ?_
        clear hK K hc7
        refine wpAny_take (i := 10) (v := ?v32) rfl (by kernel_rfl) (by kernel_rfl) (by kernel_rfl) (fun _ _ _ h => h) (Or.inl ⟨by kernel_rfl, ?h32⟩) ?_
        case h32 => intro w; go_simp; try with_reducible rfl
        go_simp
        refine wpAny_ready (rs := [11]) (by kernel_rfl) (by simp) (AllReady.cons rfl (fun K hK => ?_) AllReady.nil)
        go_simp
        obtain ⟨y, hy⟩ := C327.out.2.2 i7 hi7
        go_simp
        refine hK _ _ ?_
        clear hK K hy
        refine wpAny_take (i := 14) (v := ?v34) rfl (by kernel_rfl) (by kernel_rfl) (by kernel_rfl) (fun _ _ _ h => h) (Or.inl ⟨by kernel_rfl, ?h34⟩) ?_
        case h34 => intro w; go_simp; try with_reducible rfl
        go_simp
        refine wpAny_done (by kernel_rfl) ?_ _
        go_wp2
        go_ret3
        exact ⟨g, s, y, HG.out, HS.out, rfl, BE27.out⟩
      · skip
        go_simp
        refine (pick_any w.heap.size (p2 + 1) 7 u25 RD25.out (by omega) (by omega) (by omega)).mono ?_
        rintro e u35 ⟨x35, ⟨hx35, hy35⟩, rfl, r35, g35⟩
        have RD35 := Lib.hid r35
        have BE35 := Lib.hid (below_R BE25.out g35)
        have hR35 : w.heap.size < u35.heap.size := r35.lt
        have C735 := Lib.hid (C725.out.grown g35)
        clear r35 g35
        go_simp
        refine hK _ _ ?_
        clear hK K
        obtain ⟨k7, rfl⟩ := Int.eq_ofNat_of_zero_le hx35
        have hk7 : k7 < 7 := by omega
        have hk7' : (k7 : Int) < 7 := by omega
        refine wpAny_take (i := 12) (v := ?v36) rfl (by kernel_rfl) (by kernel_rfl) (by kernel_rfl) (fun _ _ _ h => h) (Or.inl ⟨by kernel_rfl, ?h36⟩) ?_
        case h36 => intro w; go_simp; try with_reducible rfl
        go_simp
        refine wpAny_take (i := 13) (v := ?v37) rfl (by kernel_rfl) (by kernel_rfl) (by kernel_rfl) (fun _ _ _ h => h) (Or.inl ⟨by kernel_rfl, ?h37⟩) ?_
        case h37 => intro w; go_simp; try with_reducible rfl
        go_simp
        refine wpAny_take (i := 8) (v := ?v38) rfl (by kernel_rfl) (by kernel_rfl) (by kernel_rfl) (fun _ _ _ h => h) (Or.inl ⟨by kernel_rfl, ?h38⟩) ?_
        case h38 => intro w; go_simp; try with_reducible rfl
        go_simp
        refine wpAny_ready (rs := [4, 9]) (by kernel_rfl) (by simp) (AllReady.cons rfl (fun K hK => ?_) (AllReady.cons rfl (fun K hK => ?_) AllReady.nil))
        · skip
          go_simp
          refine hK _ _ ?_
          clear hK K
          have RD39 := Lib.hid (RD35.out.alloc (.cells #[.int .i64 x5, .int .i64 (-1), .int .i64 1025] 3))
          have BE39 := Lib.hid (BE35.out.alloc BE35.out.size (.cells #[.int .i64 x5, .int .i64 (-1), .int .i64 1025] 3))
          have hR39 : w.heap.size < (u35.alloc (.cells #[.int .i64 x5, .int .i64 (-1), .int .i64 1025] 3)).heap.size := RD39.out.lt
          have C339 := Lib.hid (three_new u35 x5 hR35)
          have C739 := Lib.hid (C735.out.alloc (.cells #[.int .i64 x5, .int .i64 (-1), .int .i64 1025] 3))
          generalize u35.alloc (.cells #[.int .i64 x5, .int .i64 (-1), .int .i64 1025] 3) = u39 at RD39 BE39 hR39 C739 C339 ⊢
          refine wpAny_ready (rs := [9]) (by kernel_rfl) (by simp) (AllReady.cons rfl (fun K hK => ?_) AllReady.nil)
          go_simp
          obtain ⟨i7, hi7, hc7⟩ := C739.out.2.2 k7 hk7
          have hi7' : (i7 : Int) < 3 := by omega
          go_simp
          refine hK _ _ ?_
          clear hK K hc7
          refine wpAny_take (i := 10) (v := ?v41) rfl (by kernel_rfl) (by kernel_rfl) (by kernel_rfl) (fun _ _ _ h => h) (Or.inl ⟨by kernel_rfl, ?h41⟩) ?_
          case h41 => intro w; go_simp; try with_reducible rfl
          go_simp
          refine wpAny_ready (rs := [11]) (by kernel_rfl) (by simp) (AllReady.cons rfl (fun K hK => ?_) AllReady.nil)
          go_simp
          obtain ⟨y, hy⟩ := C339.out.2.2 i7 hi7
          go_simp
          refine hK _ _ ?_
          clear hK K hy
          refine wpAny_take (i := 14) (v := ?v43) rfl (by kernel_rfl) (by kernel_rfl) (by kernel_rfl) (fun _ _ _ h => h) (Or.inl ⟨by kernel_rfl, ?h43⟩) ?_
          case h43 => intro w; go_simp; try with_reducible rfl
          go_simp
          refine wpAny_done (by kernel_rfl) ?_ _
          go_wp2
          go_ret3
          exact ⟨g, s, y, HG.out, HS.out, rfl, BE39.out⟩
        · skip
          go_simp
          obtain ⟨i7, hi7, hc7⟩ := C735.out.2.2 k7 hk7
          have hi7' : (i7 : Int) < 3 := by omega
          go_simp
          refine hK _ _ ?_
          clear hK K hc7
          refine wpAny_ready (rs := [4]) (by kernel_rfl) (by simp) (AllReady.cons rfl (fun K hK => ?_) AllReady.nil)
          go_simp
          refine hK _ _ ?_
          clear hK K
          have RD45 := Lib.hid (RD35.out.alloc (.cells #[.int .i64 x5, .int .i64 (-1), .int .i64 1025] 3))
          have BE45 := Lib.hid (BE35.out.alloc BE35.out.size (.cells #[.int .i64 x5, .int .i64 (-1), .int .i64 1025] 3))
          have hR45 : w.heap.size < (u35.alloc (.cells #[.int .i64 x5, .int .i64 (-1), .int .i64 1025] 3)).heap.size := RD45.out.lt
          have C345 := Lib.hid (three_new u35 x5 hR35)
          have C745 := Lib.hid (C735.out.alloc (.cells #[.int .i64 x5, .int .i64 (-1), .int .i64 1025] 3))
          generalize u35.alloc (.cells #[.int .i64 x5, .int .i64 (-1), .int .i64 1025] 3) = u45 at RD45 BE45 hR45 C745 C345 ⊢
          refine wpAny_take (i := 10) (v := ?v46) rfl (by kernel_rfl) (by kernel_rfl) (by kernel_rfl) (fun _ _ _ h => h) (Or.inl ⟨by kernel_rfl, ?h46⟩) ?_
          case h46 => intro w; go_simp; try with_reducible rfl
          go_simp
          refine wpAny_ready (rs := [11]) (by kernel_rfl) (by simp) (AllReady.cons rfl (fun K hK => ?_) AllReady.nil)
          go_simp
          obtain ⟨y, hy⟩ := C345.out.2.2 i7 hi7
          go_simp
          refine hK _ _ ?_
          clear hK K hy
          refine wpAny_take (i := 14) (v := ?v48) rfl (by kernel_rfl) (by kernel_rfl) (by kernel_rfl) (fun _ _ _ h => h) (Or.inl ⟨by kernel_rfl, ?h48⟩) ?_
          case h48 => intro w; go_simp; try with_reducible rfl
          go_simp
          refine wpAny_done (by kernel_rfl) ?_ _
          go_wp2
          go_ret3
          exact ⟨g, s, y, HG.out, HS.out, rfl, BE45.out⟩
    · skip
      go_simp
      refine (pick_any w.heap.size (p2 + 1) 7 u5 RD5.out (by omega) (by omega) (by omega)).mono ?_
      rintro e u49 ⟨x49, ⟨hx49, hy49⟩, rfl, r49, g49⟩
      have RD49 := Lib.hid r49
      have BE49 := Lib.hid (below_R BE5.out g49)
      have hR49 : w.heap.size < u49.heap.size := r49.lt
      clear r49 g49
      go_simp
      refine hK _ _ ?_
      clear hK K
      obtain ⟨k7, rfl⟩ := Int.eq_ofNat_of_zero_le hx49
      have hk7 : k7 < 7 := by omega
      have hk7' : (k7 : Int) < 7 := by omega
      refine wpAny_take (i := 12) (v := ?v50) rfl (by kernel_rfl) (by kernel_rfl) (by kernel_rfl) (fun _ _ _ h => h) (Or.inl ⟨by kernel_rfl, ?h50⟩) ?_
      case h50 => intro w; go_simp; try with_reducible rfl
      go_simp
      refine wpAny_take (i := 13) (v := ?v51) rfl (by kernel_rfl) (by kernel_rfl) (by kernel_rfl) (fun _ _ _ h => h) (Or.inl ⟨by kernel_rfl, ?h51⟩) ?_
      case h51 => intro w; go_simp; try with_reducible rfl
      go_simp
      refine wpAny_ready (rs := [4, 5]) (by kernel_rfl) (by simp) (AllReady.cons rfl (fun K hK => ?_) (AllReady.cons rfl (fun K hK => ?_) AllReady.nil))
      · skip
        go_simp
        refine hK _ _ ?_
        clear hK K
        have RD52 := Lib.hid (RD49.out.alloc (.cells #[.int .i64 x5, .int .i64 (-1), .int .i64 1025] 3))
        have BE52 := Lib.hid (BE49.out.alloc BE49.out.size (.cells #[.int .i64 x5, .int .i64 (-1), .int .i64 1025] 3))
        have hR52 : w.heap.size < (u49.alloc (.cells #[.int .i64 x5, .int .i64 (-1), .int .i64 1025] 3)).heap.size := RD52.out.lt
        have C352 := Lib.hid (three_new u49 x5 hR49)
        generalize u49.alloc (.cells #[.int .i64 x5, .int .i64 (-1), .int .i64 1025] 3) = u52 at RD52 BE52 hR52 C352 ⊢
        refine wpAny_ready (rs := [5]) (by kernel_rfl) (by simp) (AllReady.cons rfl (fun K hK => ?_) AllReady.nil)
        go_simp
        refine hK _ _ ?_
        clear hK K
        have RD53 := Lib.hid (RD52.out.alloc (.cells #[.int .i64 0, .int .i64 0, .int .i64 0, .int .i64 0, .int .i64 0, .int .i64 1, .int .i64 2] 3))
        have BE53 := Lib.hid (BE52.out.alloc BE52.out.size (.cells #[.int .i64 0, .int .i64 0, .int .i64 0, .int .i64 0, .int .i64 0, .int .i64 1, .int .i64 2] 3))
        have hR53 : w.heap.size < (u52.alloc (.cells #[.int .i64 0, .int .i64 0, .int .i64 0, .int .i64 0, .int .i64 0, .int .i64 1, .int .i64 2] 3)).heap.size := RD53.out.lt
        have C753 := Lib.hid (seven_new u52 hR52)
        have C353 := Lib.hid (C352.out.alloc (.cells #[.int .i64 0, .int .i64 0, .int .i64 0, .int .i64 0, .int .i64 0, .int .i64 1, .int .i64 2] 3))
        generalize u52.alloc (.cells #[.int .i64 0, .int .i64 0, .int .i64 0, .int .i64 0, .int .i64 0, .int .i64 1, .int .i64 2] 3) = u53 at RD53 BE53 hR53 C753 C353 ⊢
        refine wpAny_take (i := 8) (v := ?v54) rfl (by kernel_rfl) (by kernel_rfl) (by kernel_rfl) (fun _ _ _ h => h) (Or.inl ⟨by kernel_rfl, ?h54⟩) ?_
        case h54 => intro w; go_simp; try with_reducible rfl
        go_simp
        refine wpAny_ready (rs := [9]) (by kernel_rfl) (by simp) (AllReady.cons rfl (fun K hK => ?_) AllReady.nil)
        go_simp
        obtain ⟨i7, hi7, hc7⟩ := C753.out.2.2 k7 hk7
        have hi7' : (i7 : Int) < 3 := by omega
        go_simp
        refine hK _ _ ?_
        clear hK K hc7
        refine wpAny_take (i := 10) (v := ?v56) rfl (by kernel_rfl) (by kernel_rfl) (by kernel_rfl) (fun _ _ _ h => h) (Or.inl ⟨by kernel_rfl, ?h56⟩) ?_
        case h56 => intro w; go_simp; try with_reducible rfl
        go_simp
        refine wpAny_ready (rs := [11]) (by kernel_rfl) (by simp) (AllReady.cons rfl (fun K hK => ?_) AllReady.nil)
        go_simp
        obtain ⟨y, hy⟩ := C353.out.2.2 i7 hi7
        go_simp
        refine hK _ _ ?_
        clear hK K hy
        refine wpAny_take (i := 14) (v := ?v58) rfl (by kernel_rfl) (by kernel_rfl) (by kernel_rfl) (fun _ _ _ h => h) (Or.inl ⟨by kernel_rfl, ?h58⟩) ?_
        case h58 => intro w; go_simp; try with_reducible rfl
        go_simp
        refine wpAny_done (by kernel_rfl) ?_ _
        go_wp2
        go_ret3
        exact ⟨g, s, y, HG.out, HS.out, rfl, BE53.out⟩
      · skip
        go_simp
        refine hK _ _ ?_
        clear hK K
        have RD59 := Lib.hid (RD49.out.alloc (.cells #[.int .i64 0, .int .i64 0, .int .i64 0, .int .i64 0, .int .i64 0, .int .i64 1, .int .i64 2] 3))
        have BE59 := Lib.hid (BE49.out.alloc BE49.out.size (.cells #[.int .i64 0, .int .i64 0, .int .i64 0, .int .i64 0, .int .i64 0, .int .i64 1, .int .i64 2] 3))
        have hR59 : w.heap.size < (u49.alloc (.cells #[.int .i64 0, .int .i64 0, .int .i64 0, .int .i64 0, .int .i64 0, .int .i64 1, .int .i64 2] 3)).heap.size := RD59.out.lt
        have C759 := Lib.hid (seven_new u49 hR49)
        generalize u49.alloc (.cells #[.int .i64 0, .int .i64 0, .int .i64 0, .int .i64 0, .int .i64 0, .int .i64 1, .int .i64 2] 3) = u59 at RD59 BE59 hR59 C759 ⊢
        refine wpAny_take (i := 8) (v := ?v60) rfl (by kernel_rfl) (by kernel_rfl) (by kernel_rfl) (fun _ _ _ h => h) (Or.inl ⟨by kernel_rfl, ?h60⟩) ?_
        case h60 => intro w; go_simp; try with_reducible rfl
        go_simp
        refine wpAny_ready (rs := [4, 9]) (by kernel_rfl) (by simp) (AllReady.cons rfl (fun K hK => ?_) (AllReady.cons rfl (fun K hK => ?_) AllReady.nil))
        · skip
          go_simp
          refine hK _ _ ?_
          clear hK K
          have RD61 := Lib.hid (RD59.out.alloc (.cells #[.int .i64 x5, .int .i64 (-1), .int .i64 1025] 3))
          have BE61 := Lib.hid (BE59.out.alloc BE59.out.size (.cells #[.int .i64 x5, .int .i64 (-1), .int .i64 1025] 3))
          have hR61 : w.heap.size < (u59.alloc (.cells #[.int .i64 x5, .int .i64 (-1), .int .i64 1025] 3)).heap.size := RD61.out.lt
          have C361 := Lib.hid (three_new u59 x5 hR59)
          have C761 := Lib.hid (C759.out.alloc (.cells #[.int .i64 x5, .int .i64 (-1), .int .i64 1025] 3))
          generalize u59.alloc (.cells #[.int .i64 x5, .int .i64 (-1), .int .i64 1025] 3) = u61 at RD61 BE61 hR61 C761 C361 ⊢
          refine wpAny_ready (rs := [9]) (by kernel_rfl) (by simp) (AllReady.cons rfl (fun K hK => ?_) AllReady.nil)
          go_simp
          obtain ⟨i7, hi7, hc7⟩ := C761.out.2.2 k7 hk7
          have hi7' : (i7 : Int) < 3 := by omega
          go_simp
          refine hK _ _ ?_
          clear hK K hc7
          refine wpAny_take (i := 10) (v := ?v63) rfl (by kernel_rfl) (by kernel_rfl) (by kernel_rfl) (fun _ _ _ h => h) (Or.inl ⟨by kernel_rfl, ?h63⟩) ?_
          case h63 => intro w; go_simp; try with_reducible rfl
          go_simp
          refine wpAny_ready (rs := [11]) (by kernel_rfl) (by simp) (AllReady.cons rfl (fun K hK => ?_) AllReady.nil)
          go_simp
          obtain ⟨y, hy⟩ := C361.out.2.2 i7 hi7
          go_simp
          refine hK _ _ ?_
          clear hK K hy
          refine wpAny_take (i := 14) (v := ?v65) rfl (by kernel_rfl) (by kernel_rfl) (by kernel_rfl) (fun _ _ _ h => h) (Or.inl ⟨by kernel_rfl, ?h65⟩) ?_
          case h65 => intro w; go_simp; try with_reducible rfl
          go_simp
          refine wpAny_done (by kernel_rfl) ?_ _
          go_wp2
          go_ret3
          exact ⟨g, s, y, HG.out, HS.out, rfl, BE61.out⟩
        · skip
          go_simp
          obtain ⟨i7, hi7, hc7⟩ := C759.out.2.2 k7 hk7
          have hi7' : (i7 : Int) < 3 := by omega
          go_simp
          refine hK _ _ ?_
          clear hK K hc7
          refine wpAny_ready (rs := [4]) (by kernel_rfl) (by simp) (AllReady.cons rfl (fun K hK => ?_) AllReady.nil)
          go_simp
          refine hK _ _ ?_
          clear hK K
          have RD67 := Lib.hid (RD59.out.alloc (.cells #[.int .i64 x5, .int .i64 (-1), .int .i64 1025] 3))
          have BE67 := Lib.hid (BE59.out.alloc BE59.out.size (.cells #[.int .i64 x5, .int .i64 (-1), .int .i64 1025] 3))
          have hR67 : w.heap.size < (u59.alloc (.cells #[.int .i64 x5, .int .i64 (-1), .int .i64 1025] 3)).heap.size := RD67.out.lt
          have C367 := Lib.hid (three_new u59 x5 hR59)
          have C767 := Lib.hid (C759.out.alloc (.cells #[.int .i64 x5, .int .i64 (-1), .int .i64 1025] 3))
          generalize u59.alloc (.cells #[.int .i64 x5, .int .i64 (-1), .int .i64 1025] 3) = u67 at RD67 BE67 hR67 C767 C367 ⊢
          refine wpAny_take (i := 10) (v := ?v68) rfl (by kernel_rfl) (by kernel_rfl) (by kernel_rfl) (fun _ _ _ h => h) (Or.inl ⟨by kernel_rfl, ?h68⟩) ?_
          case h68 => intro w; go_simp; try with_reducible rfl
          go_simp
          refine wpAny_ready (rs := [11]) (by kernel_rfl) (by simp) (AllReady.cons rfl (fun K hK => ?_) AllReady.nil)
          go_simp
          obtain ⟨y, hy⟩ := C367.out.2.2 i7 hi7
          go_simp
          refine hK _ _ ?_
          clear hK K hy
          refine wpAny_take (i := 14) (v := ?v70) rfl (by kernel_rfl) (by kernel_rfl) (by kernel_rfl) (fun _ _ _ h => h) (Or.inl ⟨by kernel_rfl, ?h70⟩) ?_
          case h70 => intro w; go_simp; try with_reducible rfl
          go_simp
          refine wpAny_done (by kernel_rfl) ?_ _
          go_wp2
          go_ret3
          exact ⟨g, s, y, HG.out, HS.out, rfl, BE67.out⟩
  · skip
    go_simp
    refine hK _ _ ?_
    clear hK K
    have RD71 := Lib.hid (RD0.out.alloc (.cells #[.int .i64 0, .int .i64 0, .int .i64 0, .int .i64 0, .int .i64 0, .int .i64 1, .int .i64 2] 3))
    have BE71 := Lib.hid (BE0.out.alloc BE0.out.size (.cells #[.int .i64 0, .int .i64 0, .int .i64 0, .int .i64 0, .int .i64 0, .int .i64 1, .int .i64 2] 3))
    have hR71 : w.heap.size < (u0.alloc (.cells #[.int .i64 0, .int .i64 0, .int .i64 0, .int .i64 0, .int .i64 0, .int .i64 1, .int .i64 2] 3)).heap.size := RD71.out.lt
    have C771 := Lib.hid (seven_new u0 hR0)
    generalize u0.alloc (.cells #[.int .i64 0, .int .i64 0, .int .i64 0, .int .i64 0, .int .i64 0, .int .i64 1, .int .i64 2] 3) = u71 at RD71 BE71 hR71 C771 ⊢
    refine wpAny_ready (rs := [3]) (by kernel_rfl) (by simp) (AllReady.cons rfl (fun K hK => ?_) AllReady.nil)
    go_simp
    refine (pick_any w.heap.size p2 40 u71 RD71.out (by omega) (by omega) (by omega)).mono ?_
    rintro e u72 ⟨x72, ⟨hx72, hy72⟩, rfl, r72, g72⟩
    have RD72 := Lib.hid r72
    have BE72 := Lib.hid (below_R BE71.out g72)
    have hR72 : w.heap.size < u72.heap.size := r72.lt
    have C772 := Lib.hid (C771.out.grown g72)
    clear r72 g72
    go_simp
    refine hK _ _ ?_
    clear hK K
    refine wpAny_ready (rs := [4, 7]) (by kernel_rfl) (by simp) (AllReady.cons rfl (fun K hK => ?_) (AllReady.cons rfl (fun K hK => ?_) AllReady.nil))
    · skip
      go_simp
      refine hK _ _ ?_
      clear hK K
      have RD73 := Lib.hid (RD72.out.alloc (.cells #[.int .i64 x72, .int .i64 (-1), .int .i64 1025] 3))
      have BE73 := Lib.hid (BE72.out.alloc BE72.out.size (.cells #[.int .i64 x72, .int .i64 (-1), .int .i64 1025] 3))
      have hR73 : w.heap.size < (u72.alloc (.cells #[.int .i64 x72, .int .i64 (-1), .int .i64 1025] 3)).heap.size := RD73.out.lt
      have C373 := Lib.hid (three_new u72 x72 hR72)
      have C773 := Lib.hid (C772.out.alloc (.cells #[.int .i64 x72, .int .i64 (-1), .int .i64 1025] 3))
      generalize u72.alloc (.cells #[.int .i64 x72, .int .i64 (-1), .int .i64 1025] 3) = u73 at RD73 BE73 hR73 C773 C373 ⊢
      refine wpAny_ready (rs := [7]) (by kernel_rfl) (by simp) (AllReady.cons rfl (fun K hK => ?_) AllReady.nil)
      go_simp
      refine (pick_any w.heap.size (p2 + 1) 7 u73 RD73.out (by omega) (by omega) (by omega)).mono ?_
      rintro e u74 ⟨x74, ⟨hx74, hy74⟩, rfl, r74, g74⟩
      have RD74 := Lib.hid r74
      have BE74 := Lib.hid (below_R BE73.out g74)
      have hR74 : w.heap.size < u74.heap.size := r74.lt
      have C774 := Lib.hid (C773.out.grown g74)
      have C374 := Lib.hid (C373.out.grown g74)
      clear r74 g74
      go_simp
      refine hK _ _ ?_
      clear hK K
      obtain ⟨k7, rfl⟩ := Int.eq_ofNat_of_zero_le hx74
      have hk7 : k7 < 7 := by omega
      have hk7' : (k7 : Int) < 7 := by omega
      refine wpAny_take (i := 12) (v := ?v75) rfl (by kernel_rfl) (by kernel_rfl) (by kernel_rfl) (fun _ _ _ h => h) (Or.inl ⟨by kernel_rfl, ?h75⟩) ?_
      case h75 => intro w; go_simp; try with_reducible rfl
      go_simp
      refine wpAny_take (i := 13) (v := ?v76) rfl (by kernel_rfl) (by kernel_rfl) (by kernel_rfl) (fun _ _ _ h => h) (Or.inl ⟨by kernel_rfl, ?h76⟩) ?_
      case h76 => intro w; go_simp; try with_reducible rfl
      go_simp
      refine wpAny_take (i := 8) (v := ?v77) rfl (by kernel_rfl) (by kernel_rfl) (by kernel_rfl) (fun _ _ _ h => h) (Or.inl ⟨by kernel_rfl, ?h77⟩) ?_
      case h77 => intro w; go_simp; try with_reducible rfl
      go_simp
      refine wpAny_ready (rs := [9]) (by kernel_rfl) (by simp) (AllReady.cons rfl (fun K hK => ?_) AllReady.nil)
      go_simp
      obtain ⟨i7, hi7, hc7⟩ := C774.out.2.2 k7 hk7
      have hi7' : (i7 : Int) < 3 := by omega
      go_simp
      refine hK _ _ ?_
      clear hK K hc7
      refine wpAny_take (i := 10) (v := ?v79) rfl (by kernel_rfl) (by kernel_rfl) (by kernel_rfl) (fun _ _ _ h => h) (Or.inl ⟨by kernel_rfl, ?h79⟩) ?_
      case h79 => intro w; go_simp; try with_reducible rfl
      go_simp
      refine wpAny_ready (rs := [11]) (by kernel_rfl) (by simp) (AllReady.cons rfl (fun K hK => ?_) AllReady.nil)
      go_simp
      obtain ⟨y, hy⟩ := C374.out.2.2 i7 hi7
      go_simp
      refine hK _ _ ?_
      clear hK K hy
      refine wpAny_take (i := 14) (v := ?v81) rfl (by kernel_rfl) (by kernel_rfl) (by kernel_rfl) (fun _ _ _ h => h) (Or.inl ⟨by kernel_rfl, ?h81⟩) ?_
      case h81 => intro w; go_simp; try with_reducible rfl
      go_simp
      refine wpAny_done (by kernel_rfl) ?_ _
      go_wp2
      go_ret3
      exact ⟨g, s, y, HG.out, HS.out, rfl, BE74.out⟩
    · skip
      go_simp
      refine (pick_any w.heap.size (p2 + 1) 7 u72 RD72.out (by omega) (by omega) (by omega)).mono ?_
      rintro e u82 ⟨x82, ⟨hx82, hy82⟩, rfl, r82, g82⟩
      have RD82 := Lib.hid r82
      have BE82 := Lib.hid (below_R BE72.out g82)
      have hR82 : w.heap.size < u82.heap.size := r82.lt
      have C782 := Lib.hid (C772.out.grown g82)
      clear r82 g82
      go_simp
      refine hK _ _ ?_
      clear hK K
      obtain ⟨k7, rfl⟩ := Int.eq_ofNat_of_zero_le hx82
      have hk7 : k7 < 7 := by omega
      have hk7' : (k7 : Int) < 7 := by omega
      refine wpAny_take (i := 12) (v := ?v83) rfl (by kernel_rfl) (by kernel_rfl) (by kernel_rfl) (fun _ _ _ h => h) (Or.inl ⟨by kernel_rfl, ?h83⟩) ?_
      case h83 => intro w; go_simp; try with_reducible rfl
      go_simp
      refine wpAny_take (i := 13) (v := ?v84) rfl (by kernel_rfl) (by kernel_rfl) (by kernel_rfl) (fun _ _ _ h => h) (Or.inl ⟨by kernel_rfl, ?h84⟩) ?_
      case h84 => intro w; go_simp; try with_reducible rfl
      go_simp
      refine wpAny_take (i := 8) (v := ?v85) rfl (by kernel_rfl) (by kernel_rfl) (by kernel_rfl) (fun _ _ _ h => h) (Or.inl ⟨by kernel_rfl, ?h85⟩) ?_
      case h85 => intro w; go_simp; try with_reducible rfl
      go_simp
      refine wpAny_ready (rs := [4, 9]) (by kernel_rfl) (by simp) (AllReady.cons rfl (fun K hK => ?_) (AllReady.cons rfl (fun K hK => ?_) AllReady.nil))
      · skip
        go_simp
        refine hK _ _ ?_
        clear hK K
        have RD86 := Lib.hid (RD82.out.alloc (.cells #[.int .i64 x72, .int .i64 (-1), .int .i64 1025] 3))
        have BE86 := Lib.hid (BE82.out.alloc BE82.out.size (.cells #[.int .i64 x72, .int .i64 (-1), .int .i64 1025] 3))
        have hR86 : w.heap.size < (u82.alloc (.cells #[.int .i64 x72, .int .i64 (-1), .int .i64 1025] 3)).heap.size := RD86.out.lt
        have C386 := Lib.hid (three_new u82 x72 hR82)
        have C786 := Lib.hid (C782.out.alloc (.cells #[.int .i64 x72, .int .i64 (-1), .int .i64 1025] 3))
        generalize u82.alloc (.cells #[.int .i64 x72, .int .i64 (-1), .int .i64 1025] 3) = u86 at RD86 BE86 hR86 C786 C386 ⊢
        refine wpAny_ready (rs := [9]) (by kernel_rfl) (by simp) (AllReady.cons rfl (fun K hK => ?_) AllReady.nil)
        go_simp
        obtain ⟨i7, hi7, hc7⟩ := C786.out.2.2 k7 hk7
        have hi7' : (i7 : Int) < 3 := by omega
        go_simp
        refine hK _ _ ?_
        clear hK K hc7
        refine wpAny_take (i := 10) (v := ?v88) rfl (by kernel_rfl) (by kernel_rfl) (by kernel_rfl) (fun _ _ _ h => h) (Or.inl ⟨by kernel_rfl, ?h88⟩) ?_
        case h88 => intro w; go_simp; try with_reducible rfl
        go_simp
        refine wpAny_ready (rs := [11]) (by kernel_rfl) (by simp) (AllReady.cons rfl (fun K hK => ?_) AllReady.nil)
        go_simp
        obtain ⟨y, hy⟩ := C386.out.2.2 i7 hi7
        go_simp
        refine hK _ _ ?_
        clear hK K hy
        refine wpAny_take (i := 14) (v := ?v90) rfl (by kernel_rfl) (by kernel_rfl) (by kernel_rfl) (fun _ _ _ h => h) (Or.inl ⟨by kernel_rfl, ?h90⟩) ?_
        case h90 => intro w; go_simp; try with_reducible rfl
        go_simp
        refine wpAny_done (by kernel_rfl) ?_ _
        go_wp2
        go_ret3
        exact ⟨g, s, y, HG.out, HS.out, rfl, BE86.out⟩
      · skip
        go_simp
        obtain ⟨i7, hi7, hc7⟩ := C782.out.2.2 k7 hk7
        have hi7' : (i7 : Int) < 3 := by omega
        go_simp
        refine hK _ _ ?_
        clear hK K hc7
        refine wpAny_ready (rs := [4]) (by kernel_rfl) (by simp) (AllReady.cons rfl (fun K hK => ?_) AllReady.nil)
        go_simp
        refine hK _ _ ?_
        clear hK K
        have RD92 := Lib.hid (RD82.out.alloc (.cells #[.int .i64 x72, .int .i64 (-1), .int .i64 1025] 3))
        have BE92 := Lib.hid (BE82.out.alloc BE82.out.size (.cells #[.int .i64 x72, .int .i64 (-1), .int .i64 1025] 3))
        have hR92 : w.heap.size < (u82.alloc (.cells #[.int .i64 x72, .int .i64 (-1), .int .i64 1025] 3)).heap.size := RD92.out.lt
        have C392 := Lib.hid (three_new u82 x72 hR82)
        have C792 := Lib.hid (C782.out.alloc (.cells #[.int .i64 x72, .int .i64 (-1), .int .i64 1025] 3))
        generalize u82.alloc (.cells #[.int .i64 x72, .int .i64 (-1), .int .i64 1025] 3) = u92 at RD92 BE92 hR92 C792 C392 ⊢
        refine wpAny_take (i := 10) (v := ?v93) rfl (by kernel_rfl) (by kernel_rfl) (by kernel_rfl) (fun _ _ _ h => h) (Or.inl ⟨by kernel_rfl, ?h93⟩) ?_
        case h93 => intro w; go_simp; try with_reducible rfl
        go_simp
        refine wpAny_ready (rs := [11]) (by kernel_rfl) (by simp) (AllReady.cons rfl (fun K hK => ?_) AllReady.nil)
        go_simp
        obtain ⟨y, hy⟩ := C392.out.2.2 i7 hi7
        go_simp
        refine hK _ _ ?_
        clear hK K hy
        refine wpAny_take (i := 14) (v := ?v95) rfl (by kernel_rfl) (by kernel_rfl) (by kernel_rfl) (fun _ _ _ h => h) (Or.inl ⟨by kernel_rfl, ?h95⟩) ?_
        case h95 => intro w; go_simp; try with_reducible rfl
        go_simp
        refine wpAny_done (by kernel_rfl) ?_ _
        go_wp2
        go_ret3
        exact ⟨g, s, y, HG.out, HS.out, rfl, BE92.out⟩
end Go.Proofs.Ytamfjmfffpdcfaa
