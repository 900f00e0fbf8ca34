/-
  What the laws of chapter 15 draw: a seed; a seed and a number of attempts. No condition.
-/
import Derived.Test.YtbjmkbajabbogaaSeqDraw2
namespace Go.Proofs.Ytbjmkbajabbogaa
open Go.RowKit

/-- A drawn seed; a seed and a number of attempts. -/
def DrawSd (w : World) (e : Ending) (w' : World) : Prop := ∃ x, e = .returned (.int .i64 x) ∧ (-1 ≤ x ∧ x ≤ 2047) ∧ Below w.heap.size w w'
def atsOk (y : Int) : Prop := y = 0 ∨ y = 101 ∨ y = 100 ∨ (1 ≤ y ∧ y ≤ 8)
def DrawSdA (w : World) (e : Ending) (w' : World) : Prop := ∃ x y, e = .returned (.tuple #[.int .i64 x, .int .i64 y]) ∧ (-1 ≤ x ∧ x ≤ 2047) ∧ atsOk y ∧ Below w.heap.size w w'
/-- Block b, not R, holds seven indices below 4. -/
def SevA (W : World) (R b : Nat) : Prop := b < W.heap.size ∧ b ≠ R ∧ ∀ k, k < 7 → ∃ i : Nat, i < 4 ∧ W.cell? ⟨b, k, none⟩ = some (.int .i64 (i : Int))
/-- Block b, not R, holds four numbers of attempts. -/
def FouA (W : World) (R b : Nat) : Prop := b < W.heap.size ∧ b ≠ R ∧ ∀ k, k < 4 → ∃ y : Int, atsOk y ∧ W.cell? ⟨b, k, none⟩ = some (.int .i64 y)
section
variable {W W' : World} {R b : Nat}
theorem SevA.grown (h : SevA W R b) (g : W.grownBy W' (some R)) : SevA W' R b :=
  ⟨Nat.lt_of_lt_of_le h.1 g.size, h.2.1, fun k hk => by rw [World.cell?_of_block (g.block b h.1 (fun e => h.2.1 (by injection e)))]; exact h.2.2 k hk⟩
theorem FouA.grown (h : FouA W R b) (g : W.grownBy W' (some R)) : FouA W' R b :=
  ⟨Nat.lt_of_lt_of_le h.1 g.size, h.2.1, fun k hk => by rw [World.cell?_of_block (g.block b h.1 (fun e => h.2.1 (by injection e)))]; exact h.2.2 k hk⟩
theorem SevA.alloc (h : SevA W R b) (o : Obj) : SevA (W.alloc o) R b := h.grown (World.grownBy_alloc W o (some R))
theorem FouA.alloc (h : FouA W R b) (o : Obj) : FouA (W.alloc o) R b := h.grown (World.grownBy_alloc W o (some R))
end
theorem sevA_new (W : World) {R : Nat} (hR : R < W.heap.size) : SevA (W.alloc (.cells #[.int .i64 0, .int .i64 0, .int .i64 0, .int .i64 0, .int .i64 1, .int .i64 2, .int .i64 3] 3)) R W.heap.size :=
  ⟨by simp, by omega, fun k hk => by
    rw [cell_of_row _ _ _ _ _ _ (heap_alloc_last W _)]
    match k, hk with
    | 0, _ | 1, _ | 2, _ | 3, _ => exact ⟨0, by omega, rfl⟩
    | 4, _ => exact ⟨1, by omega, rfl⟩
    | 5, _ => exact ⟨2, by omega, rfl⟩
    | 6, _ => exact ⟨3, by omega, rfl⟩
    | (m + 7), h => exact absurd h (by omega)⟩
theorem fouA_new (W : World) (x : Int) {R : Nat} (hR : R < W.heap.size) (hx : 1 ≤ x ∧ x ≤ 8) : FouA (W.alloc (.cells #[.int .i64 x, .int .i64 0, .int .i64 101, .int .i64 100] 3)) R W.heap.size :=
  ⟨by simp, by omega, fun k hk => by
    rw [cell_of_row _ _ _ _ _ _ (heap_alloc_last W _)]
    match k, hk with
    | 0, _ => exact ⟨x, .inr (.inr (.inr hx)), rfl⟩
    | 1, _ => exact ⟨0, .inl rfl, rfl⟩
    | 2, _ => exact ⟨101, .inr (.inl rfl), rfl⟩
    | 3, _ => exact ⟨100, .inr (.inr (.inl rfl)), rfl⟩
    | (m + 4), h => exact absurd h (by omega)⟩
set_option maxRecDepth 100000 in
set_option maxHeartbeats 1000000 in
theorem drawNextSeed_any (a : Option Addr) (c : Nat) (ds : List Int) (w : World) (hx : Ints .u8 w w.heap.size a ds) (hw : ∀ n ∈ ds, isByte n) (hc : ds.length ≤ c) (hcm : c ≤ maxLen) :
    Calls Try.prog 17 #[.slice a ds.length c] w (DrawSd w) := by
  have hl : ds.length ≤ maxLen := Nat.le_trans hc hcm
  go_enter Try.func17, Try.ntmps17
  go_wp2_with fail
  refine (open_any a c ds w hx hw hc hl hcm).mono ?_
  rintro e w1 ⟨rfl, r1, b1⟩
  have R1 := Lib.hid r1
  have B1 := Lib.hid b1
  clear hx hw hc hcm hl r1 b1
  go_wp2_with fail
  refine (pick_any w.heap.size 0 256 w1 R1.out (by omega) (by omega) (by omega)).mono ?_
  rintro e w2 ⟨v, ⟨hv, hv'⟩, rfl, r2, g2⟩
  have R2 := Lib.hid r2
  have B2 := Lib.hid (below_R B1.out g2)
  have r8 : IntKind.i64.wrap (v * 8) = v * 8 := by rw [IntKind.wrap_i64]; omega
  have r8' : wrap64 (v * 8) = v * 8 := by unfold wrap64; omega
  clear r2 g2 R1 B1
  go_wp2_with fail
  refine (pick_any w.heap.size (0 + 1) 9 w2 R2.out (by omega) (by omega) (by omega)).mono ?_
  rintro e w3 ⟨u, ⟨hu, hu'⟩, rfl, r3, g3⟩
  have R3 := Lib.hid r3
  have B3 := Lib.hid (below_R B2.out g3)
  have q8 : IntKind.i64.wrap (v * 8 + u) = v * 8 + u := by rw [IntKind.wrap_i64]; omega
  have q8' : wrap64 (v * 8 + u) = v * 8 + u := by unfold wrap64; omega
  have p8 : IntKind.i64.wrap (v * 8 + u - 1) = v * 8 + u - 1 := by rw [IntKind.wrap_i64]; omega
  have p8' : wrap64 (v * 8 + u - 1) = v * 8 + u - 1 := by unfold wrap64; omega
  have HS : Hid (-1 ≤ v * 8 + u - 1 ∧ v * 8 + u - 1 ≤ 2047) := Lib.hid (by omega)
  clear r3 g3 R2 B2
  go_wp2
  go_ret
  exact ⟨_, rfl, HS.out, B3.out⟩
set_option maxRecDepth 100000 in
set_option maxHeartbeats 8000000 in
theorem drawBackoffSlots_any (a : Option Addr) (c : Nat) (ds : List Int) (w : World) (hx : Ints .u8 w w.heap.size a ds) (hw : ∀ n ∈ ds, isByte n) (hc : ds.length ≤ c) (hcm : c ≤ maxLen) :
    Calls Try.prog 20 #[.slice a ds.length c] w (DrawSdA w) := by
  have hl : ds.length ≤ maxLen := Nat.le_trans hc hcm
  go_enter Try.func20, Try.ntmps20
  go_wp2_with fail
  refine (open_any a c ds w hx hw hc hl hcm).mono ?_
  rintro e w1 ⟨rfl, r1, b1⟩
  have R1 := Lib.hid r1
  have B1 := Lib.hid b1
  clear hx hw hc hcm hl r1 b1
  go_wp2_with fail
  refine (pick_any w.heap.size 0 256 w1 R1.out (by omega) (by omega) (by omega)).mono ?_
  rintro e w2 ⟨v, ⟨hv, hv'⟩, rfl, r2, g2⟩
  have R2 := Lib.hid r2
  have B2 := Lib.hid (below_R B1.out g2)
  have r8 : IntKind.i64.wrap (v * 8) = v * 8 := by rw [IntKind.wrap_i64]; omega
  have r8' : wrap64 (v * 8) = v * 8 := by unfold wrap64; omega
  clear r2 g2 R1 B1
  go_wp2_with fail
  refine (pick_any w.heap.size (0 + 1) 9 w2 R2.out (by omega) (by omega) (by omega)).mono ?_
  rintro e w3 ⟨u, ⟨hu, hu'⟩, rfl, r3, g3⟩
  have R3 := Lib.hid r3
  have B3 := Lib.hid (below_R B2.out g3)
  have q8 : IntKind.i64.wrap (v * 8 + u) = v * 8 + u := by rw [IntKind.wrap_i64]; omega
  have q8' : wrap64 (v * 8 + u) = v * 8 + u := by unfold wrap64; omega
  have p8 : IntKind.i64.wrap (v * 8 + u - 1) = v * 8 + u - 1 := by rw [IntKind.wrap_i64]; omega
  have p8' : wrap64 (v * 8 + u - 1) = v * 8 + u - 1 := by unfold wrap64; omega
  have HS : Hid (-1 ≤ v * 8 + u - 1 ∧ v * 8 + u - 1 ≤ 2047) := Lib.hid (by omega)
  clear r3 g3 R2 B2
  go_wp2_with fail
  refine wp_region_any (by kernel_rfl) ?_
  change wpAny _ _ _ _ _ _ _ (World.drew _)
  have RD0 : Hid (Rd w3.drew w.heap.size (0 + 1 + 1)) := R3.out
  have BE0 : Hid (Below w.heap.size w w3.drew) := below_drewN B3.out 1
  have hR0 : w.heap.size < w3.drew.heap.size := RD0.out.lt
  clear R3 B3
  generalize w3.drew = u0 at RD0 BE0 hR0 ⊢
  refine wpAny_take (i := 0) (v := ?v1) rfl (by kernel_rfl) (by kernel_rfl) (by kernel_rfl) (fun _ _ _ h => h) (Or.inl ⟨by kernel_rfl, ?h1⟩) ?_
  case h1 => intro w; go_simp; try with_reducible rfl
  go_simp
  refine wpAny_take (i := 1) (v := ?v2) rfl (by kernel_rfl) (by kernel_rfl) (by kernel_rfl) (fun _ _ _ h => h) (Or.inl ⟨by kernel_rfl, ?h2⟩) ?_
  case h2 => intro w; go_simp; try with_reducible rfl
  go_simp
  refine wpAny_take (i := 6) (v := ?v3) rfl (by kernel_rfl) (by kernel_rfl) (by kernel_rfl) (fun _ _ _ h => h) (Or.inl ⟨by kernel_rfl, ?h3⟩) ?_
  case h3 => intro w; go_simp; try with_reducible rfl
  go_simp
  refine wpAny_ready (rs := [2, 5]) (by kernel_rfl) (by simp) (AllReady.cons rfl (fun K hK => ?_) (AllReady.cons rfl (fun K hK => ?_) AllReady.nil))
  · skip
    go_simp
    refine (pick_any w.heap.size (0 + 1 + 1) 8 u0 RD0.out (by omega) (by omega) (by omega)).mono ?_
    rintro e u4 ⟨v1, ⟨hx4, hy4⟩, rfl, r4, g4⟩
    have RD4 := Lib.hid r4
    have BE4 := Lib.hid (below_R BE0.out g4)
    have hR4 : w.heap.size < u4.heap.size := r4.lt
    clear r4 g4
    have q1 : IntKind.i64.wrap (1 + v1) = 1 + v1 := by rw [IntKind.wrap_i64]; omega
    have q1' : wrap64 (1 + v1) = 1 + v1 := by unfold wrap64; omega
    go_simp
    refine hK _ _ ?_
    clear hK K
    refine wpAny_take (i := 3) (v := ?v5) rfl (by kernel_rfl) (by kernel_rfl) (by kernel_rfl) (fun _ _ _ h => h) (Or.inl ⟨by kernel_rfl, ?h5⟩) ?_
    case h5 => intro w; go_simp; try with_reducible rfl
    go_simp
    refine wpAny_ready (rs := [4, 5, 7]) (by kernel_rfl) (by simp) (AllReady.cons rfl (fun K hK => ?_) (AllReady.cons rfl (fun K hK => ?_) (AllReady.cons rfl (fun K hK => ?_) AllReady.nil)))
    · skip
      go_simp
      refine hK _ _ ?_
      clear hK K
      have RD6 := Lib.hid (RD4.out.alloc (.cells #[.int .i64 (1 + v1), .int .i64 0, .int .i64 101, .int .i64 100] 3))
      have BE6 := Lib.hid (BE4.out.alloc BE4.out.size (.cells #[.int .i64 (1 + v1), .int .i64 0, .int .i64 101, .int .i64 100] 3))
      have hR6 : w.heap.size < (u4.alloc (.cells #[.int .i64 (1 + v1), .int .i64 0, .int .i64 101, .int .i64 100] 3)).heap.size := RD6.out.lt
      have C46 := Lib.hid (fouA_new u4 (1 + v1) hR4 (by omega))
      generalize u4.alloc (.cells #[.int .i64 (1 + v1), .int .i64 0, .int .i64 101, .int .i64 100] 3) = u6 at RD6 BE6 hR6 C46 ⊢
      refine wpAny_ready (rs := [5, 7]) (by kernel_rfl) (by simp) (AllReady.cons rfl (fun K hK => ?_) (AllReady.cons rfl (fun K hK => ?_) AllReady.nil))
      · skip
        go_simp
        refine hK _ _ ?_
        clear hK K
        have RD7 := Lib.hid (RD6.out.alloc (.cells #[.int .i64 0, .int .i64 0, .int .i64 0, .int .i64 0, .int .i64 1, .int .i64 2, .int .i64 3] 3))
        have BE7 := Lib.hid (BE6.out.alloc BE6.out.size (.cells #[.int .i64 0, .int .i64 0, .int .i64 0, .int .i64 0, .int .i64 1, .int .i64 2, .int .i64 3] 3))
        have hR7 : w.heap.size < (u6.alloc (.cells #[.int .i64 0, .int .i64 0, .int .i64 0, .int .i64 0, .int .i64 1, .int .i64 2, .int .i64 3] 3)).heap.size := RD7.out.lt
        have C77 := Lib.hid (sevA_new u6 hR6)
        have C47 := Lib.hid (C46.out.alloc (.cells #[.int .i64 0, .int .i64 0, .int .i64 0, .int .i64 0, .int .i64 1, .int .i64 2, .int .i64 3] 3))
        generalize u6.alloc (.cells #[.int .i64 0, .int .i64 0, .int .i64 0, .int .i64 0, .int .i64 1, .int .i64 2, .int .i64 3] 3) = u7 at RD7 BE7 hR7 C77 C47 ⊢
        refine wpAny_ready (rs := [7]) (by kernel_rfl) (by simp) (AllReady.cons rfl (fun K hK => ?_) AllReady.nil)
        go_simp
        refine (pick_any w.heap.size (0 + 1 + 1 + 1) 7 u7 RD7.out (by omega) (by omega) (by omega)).mono ?_
        rintro e u8 ⟨x8, ⟨hx8, hy8⟩, rfl, r8, g8⟩
        have RD8 := Lib.hid r8
        have BE8 := Lib.hid (below_R BE7.out g8)
        have hR8 : w.heap.size < u8.heap.size := r8.lt
        have C78 := Lib.hid (C77.out.grown g8)
        have C48 := Lib.hid (C47.out.grown g8)
        clear r8 g8
        go_simp
        refine hK _ _ ?_
        clear hK K
        obtain ⟨k6, rfl⟩ := Int.eq_ofNat_of_zero_le hx8
        have hk6 : k6 < 7 := by omega
        have hk6' : (k6 : Int) < 7 := by omega
        refine wpAny_take (i := 12) (v := ?v9) rfl (by kernel_rfl) (by kernel_rfl) (by kernel_rfl) (fun _ _ _ h => h) (Or.inl ⟨by kernel_rfl, ?h9⟩) ?_
        case h9 => intro w; go_simp; try with_reducible rfl
        go_simp
        refine wpAny_take (i := 8) (v := ?v10) rfl (by kernel_rfl) (by kernel_rfl) (by kernel_rfl) (fun _ _ _ h => h) (Or.inl ⟨by kernel_rfl, ?h10⟩) ?_
        case h10 => intro w; go_simp; try with_reducible rfl
        go_simp
        refine wpAny_ready (rs := [9]) (by kernel_rfl) (by simp) (AllReady.cons rfl (fun K hK => ?_) AllReady.nil)
        go_simp
        obtain ⟨i6, hi6, hc6⟩ := C78.out.2.2 k6 hk6
        have hi6' : (i6 : Int) < 4 := by omega
        go_simp
        refine hK _ _ ?_
        clear hK K hc6
        refine wpAny_take (i := 10) (v := ?v12) rfl (by kernel_rfl) (by kernel_rfl) (by kernel_rfl) (fun _ _ _ h => h) (Or.inl ⟨by kernel_rfl, ?h12⟩) ?_
        case h12 => intro w; go_simp; try with_reducible rfl
        go_simp
        refine wpAny_ready (rs := [11]) (by kernel_rfl) (by simp) (AllReady.cons rfl (fun K hK => ?_) AllReady.nil)
        go_simp
        obtain ⟨y, hyy, hy⟩ := C48.out.2.2 i6 hi6
        have HY := Lib.hid hyy
        clear hyy
        go_simp
        refine hK _ _ ?_
        clear hK K hy
        refine wpAny_take (i := 13) (v := ?v14) rfl (by kernel_rfl) (by kernel_rfl) (by kernel_rfl) (fun _ _ _ h => h) (Or.inl ⟨by kernel_rfl, ?h14⟩) ?_
        case h14 => intro w; go_simp; try with_reducible rfl
        go_simp
        refine wpAny_done (by kernel_rfl) ?_ _
        go_wp2
        go_ret2
        exact ⟨_, y, rfl, HS.out, HY.out, BE8.out⟩
      · skip
        go_simp
        refine (pick_any w.heap.size (0 + 1 + 1 + 1) 7 u6 RD6.out (by omega) (by omega) (by omega)).mono ?_
        rintro e u15 ⟨x15, ⟨hx15, hy15⟩, rfl, r15, g15⟩
        have RD15 := Lib.hid r15
        have BE15 := Lib.hid (below_R BE6.out g15)
        have hR15 : w.heap.size < u15.heap.size := r15.lt
        have C415 := Lib.hid (C46.out.grown g15)
        clear r15 g15
        go_simp
        refine hK _ _ ?_
        clear hK K
        obtain ⟨k6, rfl⟩ := Int.eq_ofNat_of_zero_le hx15
        have hk6 : k6 < 7 := by omega
        have hk6' : (k6 : Int) < 7 := by omega
        refine wpAny_take (i := 12) (v := ?v16) rfl (by kernel_rfl) (by kernel_rfl) (by kernel_rfl) (fun _ _ _ h => h) (Or.inl ⟨by kernel_rfl, ?h16⟩) ?_
        case h16 => intro w; go_simp; try with_reducible rfl
        go_simp
        refine wpAny_ready (rs := [5]) (by kernel_rfl) (by simp) (AllReady.cons rfl (fun K hK => ?_) AllReady.nil)
        go_simp
        refine hK _ _ ?_
        clear hK K
        have RD17 := Lib.hid (RD15.out.alloc (.cells #[.int .i64 0, .int .i64 0, .int .i64 0, .int .i64 0, .int .i64 1, .int .i64 2, .int .i64 3] 3))
        have BE17 := Lib.hid (BE15.out.alloc BE15.out.size (.cells #[.int .i64 0, .int .i64 0, .int .i64 0, .int .i64 0, .int .i64 1, .int .i64 2, .int .i64 3] 3))
        have hR17 : w.heap.size < (u15.alloc (.cells #[.int .i64 0, .int .i64 0, .int .i64 0, .int .i64 0, .int .i64 1, .int .i64 2, .int .i64 3] 3)).heap.size := RD17.out.lt
        have C717 := Lib.hid (sevA_new u15 hR15)
        have C417 := Lib.hid (C415.out.alloc (.cells #[.int .i64 0, .int .i64 0, .int .i64 0, .int .i64 0, .int .i64 1, .int .i64 2, .int .i64 3] 3))
        generalize u15.alloc (.cells #[.int .i64 0, .int .i64 0, .int .i64 0, .int .i64 0, .int .i64 1, .int .i64 2, .int .i64 3] 3) = u17 at RD17 BE17 hR17 C717 C417 ⊢
        refine wpAny_take (i := 8) (v := ?v18) rfl (by kernel_rfl) (by kernel_rfl) (by kernel_rfl) (fun _ _ _ h => h) (Or.inl ⟨by kernel_rfl, ?h18⟩) ?_
        case h18 => intro w; go_simp; try with_reducible rfl
        go_simp
        refine wpAny_ready (rs := [9]) (by kernel_rfl) (by simp) (AllReady.cons rfl (fun K hK => ?_) AllReady.nil)
        go_simp
        obtain ⟨i6, hi6, hc6⟩ := C717.out.2.2 k6 hk6
        have hi6' : (i6 : Int) < 4 := by omega
        go_simp
        refine hK _ _ ?_
        clear hK K hc6
        refine wpAny_take (i := 10) (v := ?v20) rfl (by kernel_rfl) (by kernel_rfl) (by kernel_rfl) (fun _ _ _ h => h) (Or.inl ⟨by kernel_rfl, ?h20⟩) ?_
        case h20 => intro w; go_simp; try with_reducible rfl
        go_simp
        refine wpAny_ready (rs := [11]) (by kernel_rfl) (by simp) (AllReady.cons rfl (fun K hK => ?_) AllReady.nil)
        go_simp
        obtain ⟨y, hyy, hy⟩ := C417.out.2.2 i6 hi6
        have HY := Lib.hid hyy
        clear hyy
        go_simp
        refine hK _ _ ?_
        clear hK K hy
        refine wpAny_take (i := 13) (v := ?v22) rfl (by kernel_rfl) (by kernel_rfl) (by kernel_rfl) (fun _ _ _ h => h) (Or.inl ⟨by kernel_rfl, ?h22⟩) ?_
        case h22 => intro w; go_simp; try with_reducible rfl
        go_simp
        refine wpAny_done (by kernel_rfl) ?_ _
        go_wp2
        go_ret2
        exact ⟨_, y, rfl, HS.out, HY.out, BE17.out⟩
    · skip
      go_simp
      refine hK _ _ ?_
      clear hK K
      have RD23 := Lib.hid (RD4.out.alloc (.cells #[.int .i64 0, .int .i64 0, .int .i64 0, .int .i64 0, .int .i64 1, .int .i64 2, .int .i64 3] 3))
      have BE23 := Lib.hid (BE4.out.alloc BE4.out.size (.cells #[.int .i64 0, .int .i64 0, .int .i64 0, .int .i64 0, .int .i64 1, .int .i64 2, .int .i64 3] 3))
      have hR23 : w.heap.size < (u4.alloc (.cells #[.int .i64 0, .int .i64 0, .int .i64 0, .int .i64 0, .int .i64 1, .int .i64 2, .int .i64 3] 3)).heap.size := RD23.out.lt
      have C723 := Lib.hid (sevA_new u4 hR4)
      generalize u4.alloc (.cells #[.int .i64 0, .int .i64 0, .int .i64 0, .int .i64 0, .int .i64 1, .int .i64 2, .int .i64 3] 3) = u23 at RD23 BE23 hR23 C723 ⊢
      refine wpAny_ready (rs := [4, 7]) (by kernel_rfl) (by simp) (AllReady.cons rfl (fun K hK => ?_) (AllReady.cons rfl (fun K hK => ?_) AllReady.nil))
      · skip
        go_simp
        refine hK _ _ ?_
        clear hK K
        have RD24 := Lib.hid (RD23.out.alloc (.cells #[.int .i64 (1 + v1), .int .i64 0, .int .i64 101, .int .i64 100] 3))
        have BE24 := Lib.hid (BE23.out.alloc BE23.out.size (.cells #[.int .i64 (1 + v1), .int .i64 0, .int .i64 101, .int .i64 100] 3))
        have hR24 : w.heap.size < (u23.alloc (.cells #[.int .i64 (1 + v1), .int .i64 0, .int .i64 101, .int .i64 100] 3)).heap.size := RD24.out.lt
        have C424 := Lib.hid (fouA_new u23 (1 + v1) hR23 (by omega))
        have C724 := Lib.hid (C723.out.alloc (.cells #[.int .i64 (1 + v1), .int .i64 0, .int .i64 101, .int .i64 100] 3))
        generalize u23.alloc (.cells #[.int .i64 (1 + v1), .int .i64 0, .int .i64 101, .int .i64 100] 3) = u24 at RD24 BE24 hR24 C424 C724 ⊢
        refine wpAny_ready (rs := [7]) (by kernel_rfl) (by simp) (AllReady.cons rfl (fun K hK => ?_) AllReady.nil)
        go_simp
        refine (pick_any w.heap.size (0 + 1 + 1 + 1) 7 u24 RD24.out (by omega) (by omega) (by omega)).mono ?_
        rintro e u25 ⟨x25, ⟨hx25, hy25⟩, rfl, r25, g25⟩
        have RD25 := Lib.hid r25
        have BE25 := Lib.hid (below_R BE24.out g25)
        have hR25 : w.heap.size < u25.heap.size := r25.lt
        have C725 := Lib.hid (C724.out.grown g25)
        have C425 := Lib.hid (C424.out.grown g25)
        clear r25 g25
        go_simp
        refine hK _ _ ?_
        clear hK K
        obtain ⟨k6, rfl⟩ := Int.eq_ofNat_of_zero_le hx25
        have hk6 : k6 < 7 := by omega
        have hk6' : (k6 : Int) < 7 := by omega
        refine wpAny_take (i := 12) (v := ?v26) rfl (by kernel_rfl) (by kernel_rfl) (by kernel_rfl) (fun _ _ _ h => h) (Or.inl ⟨by kernel_rfl, ?h26⟩) ?_
        case h26 => intro w; go_simp; try with_reducible rfl
        go_simp
        refine wpAny_take (i := 8) (v := ?v27) rfl (by kernel_rfl) (by kernel_rfl) (by kernel_rfl) (fun _ _ _ h => h) (Or.inl ⟨by kernel_rfl, ?h27⟩) ?_
        case h27 => intro w; go_simp; try with_reducible rfl
        go_simp
        refine wpAny_ready (rs := [9]) (by kernel_rfl) (by simp) (AllReady.cons rfl (fun K hK => ?_) AllReady.nil)
        go_simp
        obtain ⟨i6, hi6, hc6⟩ := C725.out.2.2 k6 hk6
        have hi6' : (i6 : Int) < 4 := by omega
        go_simp
        refine hK _ _ ?_
        clear hK K hc6
        refine wpAny_take (i := 10) (v := ?v29) rfl (by kernel_rfl) (by kernel_rfl) (by kernel_rfl) (fun _ _ _ h => h) (Or.inl ⟨by kernel_rfl, ?h29⟩) ?_
        case h29 => intro w; go_simp; try with_reducible rfl
        go_simp
        refine wpAny_ready (rs := [11]) (by kernel_rfl) (by simp) (AllReady.cons rfl (fun K hK => ?_) AllReady.nil)
        go_simp
        obtain ⟨y, hyy, hy⟩ := C425.out.2.2 i6 hi6
        have HY := Lib.hid hyy
        clear hyy
        go_simp
        refine hK _ _ ?_
        clear hK K hy
        refine wpAny_take (i := 13) (v := ?v31) rfl (by kernel_rfl) (by kernel_rfl) (by kernel_rfl) (fun _ _ _ h => h) (Or.inl ⟨by kernel_rfl, ?h31⟩) ?_
        case h31 => intro w; go_simp; try with_reducible rfl
        go_simp
        refine wpAny_done (by kernel_rfl) ?_ _
        go_wp2
        go_ret2
        exact ⟨_, y, rfl, HS.out, HY.out, BE25.out⟩
      · skip
        go_simp
        refine (pick_any w.heap.size (0 + 1 + 1 + 1) 7 u23 RD23.out (by omega) (by omega) (by omega)).mono ?_
        rintro e u32 ⟨x32, ⟨hx32, hy32⟩, rfl, r32, g32⟩
        have RD32 := Lib.hid r32
        have BE32 := Lib.hid (below_R BE23.out g32)
        have hR32 : w.heap.size < u32.heap.size := r32.lt
        have C732 := Lib.hid (C723.out.grown g32)
        clear r32 g32
        go_simp
        refine hK _ _ ?_
        clear hK K
        obtain ⟨k6, rfl⟩ := Int.eq_ofNat_of_zero_le hx32
        have hk6 : k6 < 7 := by omega
        have hk6' : (k6 : Int) < 7 := by omega
        refine wpAny_take (i := 12) (v := ?v33) rfl (by kernel_rfl) (by kernel_rfl) (by kernel_rfl) (fun _ _ _ h => h) (Or.inl ⟨by kernel_rfl, ?h33⟩) ?_
        case h33 => intro w; go_simp; try with_reducible rfl
        go_simp
        refine wpAny_take (i := 8) (v := ?v34) rfl (by kernel_rfl) (by kernel_rfl) (by kernel_rfl) (fun _ _ _ h => h) (Or.inl ⟨by kernel_rfl, ?h34⟩) ?_
        case h34 => intro w; go_simp; try with_reducible rfl
        go_simp
        refine wpAny_ready (rs := [4, 9]) (by kernel_rfl) (by simp) (AllReady.cons rfl (fun K hK => ?_) (AllReady.cons rfl (fun K hK => ?_) AllReady.nil))
        · skip
          go_simp
          refine hK _ _ ?_
          clear hK K
          have RD35 := Lib.hid (RD32.out.alloc (.cells #[.int .i64 (1 + v1), .int .i64 0, .int .i64 101, .int .i64 100] 3))
          have BE35 := Lib.hid (BE32.out.alloc BE32.out.size (.cells #[.int .i64 (1 + v1), .int .i64 0, .int .i64 101, .int .i64 100] 3))
          have hR35 : w.heap.size < (u32.alloc (.cells #[.int .i64 (1 + v1), .int .i64 0, .int .i64 101, .int .i64 100] 3)).heap.size := RD35.out.lt
          have C435 := Lib.hid (fouA_new u32 (1 + v1) hR32 (by omega))
          have C735 := Lib.hid (C732.out.alloc (.cells #[.int .i64 (1 + v1), .int .i64 0, .int .i64 101, .int .i64 100] 3))
          generalize u32.alloc (.cells #[.int .i64 (1 + v1), .int .i64 0, .int .i64 101, .int .i64 100] 3) = u35 at RD35 BE35 hR35 C435 C735 ⊢
          refine wpAny_ready (rs := [9]) (by kernel_rfl) (by simp) (AllReady.cons rfl (fun K hK => ?_) AllReady.nil)
          go_simp
          obtain ⟨i6, hi6, hc6⟩ := C735.out.2.2 k6 hk6
          have hi6' : (i6 : Int) < 4 := by omega
          go_simp
          refine hK _ _ ?_
          clear hK K hc6
          refine wpAny_take (i := 10) (v := ?v37) rfl (by kernel_rfl) (by kernel_rfl) (by kernel_rfl) (fun _ _ _ h => h) (Or.inl ⟨by kernel_rfl, ?h37⟩) ?_
          case h37 => intro w; go_simp; try with_reducible rfl
          go_simp
          refine wpAny_ready (rs := [11]) (by kernel_rfl) (by simp) (AllReady.cons rfl (fun K hK => ?_) AllReady.nil)
          go_simp
          obtain ⟨y, hyy, hy⟩ := C435.out.2.2 i6 hi6
          have HY := Lib.hid hyy
          clear hyy
          go_simp
          refine hK _ _ ?_
          clear hK K hy
          refine wpAny_take (i := 13) (v := ?v39) rfl (by kernel_rfl) (by kernel_rfl) (by kernel_rfl) (fun _ _ _ h => h) (Or.inl ⟨by kernel_rfl, ?h39⟩) ?_
          case h39 => intro w; go_simp; try with_reducible rfl
          go_simp
          refine wpAny_done (by kernel_rfl) ?_ _
          go_wp2
          go_ret2
          exact ⟨_, y, rfl, HS.out, HY.out, BE35.out⟩
        · skip
          go_simp
          obtain ⟨i6, hi6, hc6⟩ := C732.out.2.2 k6 hk6
          have hi6' : (i6 : Int) < 4 := by omega
          go_simp
          refine hK _ _ ?_
          clear hK K hc6
          refine wpAny_ready (rs := [4]) (by kernel_rfl) (by simp) (AllReady.cons rfl (fun K hK => ?_) AllReady.nil)
          go_simp
          refine hK _ _ ?_
          clear hK K
          have RD41 := Lib.hid (RD32.out.alloc (.cells #[.int .i64 (1 + v1), .int .i64 0, .int .i64 101, .int .i64 100] 3))
          have BE41 := Lib.hid (BE32.out.alloc BE32.out.size (.cells #[.int .i64 (1 + v1), .int .i64 0, .int .i64 101, .int .i64 100] 3))
          have hR41 : w.heap.size < (u32.alloc (.cells #[.int .i64 (1 + v1), .int .i64 0, .int .i64 101, .int .i64 100] 3)).heap.size := RD41.out.lt
          have C441 := Lib.hid (fouA_new u32 (1 + v1) hR32 (by omega))
          have C741 := Lib.hid (C732.out.alloc (.cells #[.int .i64 (1 + v1), .int .i64 0, .int .i64 101, .int .i64 100] 3))
          generalize u32.alloc (.cells #[.int .i64 (1 + v1), .int .i64 0, .int .i64 101, .int .i64 100] 3) = u41 at RD41 BE41 hR41 C441 C741 ⊢
          refine wpAny_take (i := 10) (v := ?v42) rfl (by kernel_rfl) (by kernel_rfl) (by kernel_rfl) (fun _ _ _ h => h) (Or.inl ⟨by kernel_rfl, ?h42⟩) ?_
          case h42 => intro w; go_simp; try with_reducible rfl
          go_simp
          refine wpAny_ready (rs := [11]) (by kernel_rfl) (by simp) (AllReady.cons rfl (fun K hK => ?_) AllReady.nil)
          go_simp
          obtain ⟨y, hyy, hy⟩ := C441.out.2.2 i6 hi6
          have HY := Lib.hid hyy
          clear hyy
          go_simp
          refine hK _ _ ?_
          clear hK K hy
          refine wpAny_take (i := 13) (v := ?v44) rfl (by kernel_rfl) (by kernel_rfl) (by kernel_rfl) (fun _ _ _ h => h) (Or.inl ⟨by kernel_rfl, ?h44⟩) ?_
          case h44 => intro w; go_simp; try with_reducible rfl
          go_simp
          refine wpAny_done (by kernel_rfl) ?_ _
          go_wp2
          go_ret2
          exact ⟨_, y, rfl, HS.out, HY.out, BE41.out⟩
    · skip
      go_simp
      refine (pick_any w.heap.size (0 + 1 + 1 + 1) 7 u4 RD4.out (by omega) (by omega) (by omega)).mono ?_
      rintro e u45 ⟨x45, ⟨hx45, hy45⟩, rfl, r45, g45⟩
      have RD45 := Lib.hid r45
      have BE45 := Lib.hid (below_R BE4.out g45)
      have hR45 : w.heap.size < u45.heap.size := r45.lt
      clear r45 g45
      go_simp
      refine hK _ _ ?_
      clear hK K
      obtain ⟨k6, rfl⟩ := Int.eq_ofNat_of_zero_le hx45
      have hk6 : k6 < 7 := by omega
      have hk6' : (k6 : Int) < 7 := by omega
      refine wpAny_take (i := 12) (v := ?v46) rfl (by kernel_rfl) (by kernel_rfl) (by kernel_rfl) (fun _ _ _ h => h) (Or.inl ⟨by kernel_rfl, ?h46⟩) ?_
      case h46 => intro w; go_simp; try with_reducible rfl
      go_simp
      refine wpAny_ready (rs := [4, 5]) (by kernel_rfl) (by simp) (AllReady.cons rfl (fun K hK => ?_) (AllReady.cons rfl (fun K hK => ?_) AllReady.nil))
      · skip
        go_simp
        refine hK _ _ ?_
        clear hK K
        have RD47 := Lib.hid (RD45.out.alloc (.cells #[.int .i64 (1 + v1), .int .i64 0, .int .i64 101, .int .i64 100] 3))
        have BE47 := Lib.hid (BE45.out.alloc BE45.out.size (.cells #[.int .i64 (1 + v1), .int .i64 0, .int .i64 101, .int .i64 100] 3))
        have hR47 : w.heap.size < (u45.alloc (.cells #[.int .i64 (1 + v1), .int .i64 0, .int .i64 101, .int .i64 100] 3)).heap.size := RD47.out.lt
        have C447 := Lib.hid (fouA_new u45 (1 + v1) hR45 (by omega))
        generalize u45.alloc (.cells #[.int .i64 (1 + v1), .int .i64 0, .int .i64 101, .int .i64 100] 3) = u47 at RD47 BE47 hR47 C447 ⊢
        refine wpAny_ready (rs := [5]) (by kernel_rfl) (by simp) (AllReady.cons rfl (fun K hK => ?_) AllReady.nil)
        go_simp
        refine hK _ _ ?_
        clear hK K
        have RD48 := Lib.hid (RD47.out.alloc (.cells #[.int .i64 0, .int .i64 0, .int .i64 0, .int .i64 0, .int .i64 1, .int .i64 2, .int .i64 3] 3))
        have BE48 := Lib.hid (BE47.out.alloc BE47.out.size (.cells #[.int .i64 0, .int .i64 0, .int .i64 0, .int .i64 0, .int .i64 1, .int .i64 2, .int .i64 3] 3))
        have hR48 : w.heap.size < (u47.alloc (.cells #[.int .i64 0, .int .i64 0, .int .i64 0, .int .i64 0, .int .i64 1, .int .i64 2, .int .i64 3] 3)).heap.size := RD48.out.lt
        have C748 := Lib.hid (sevA_new u47 hR47)
        have C448 := Lib.hid (C447.out.alloc (.cells #[.int .i64 0, .int .i64 0, .int .i64 0, .int .i64 0, .int .i64 1, .int .i64 2, .int .i64 3] 3))
        generalize u47.alloc (.cells #[.int .i64 0, .int .i64 0, .int .i64 0, .int .i64 0, .int .i64 1, .int .i64 2, .int .i64 3] 3) = u48 at RD48 BE48 hR48 C748 C448 ⊢
        refine wpAny_take (i := 8) (v := ?v49) rfl (by kernel_rfl) (by kernel_rfl) (by kernel_rfl) (fun _ _ _ h => h) (Or.inl ⟨by kernel_rfl, ?h49⟩) ?_
        case h49 => intro w; go_simp; try with_reducible rfl
        go_simp
        refine wpAny_ready (rs := [9]) (by kernel_rfl) (by simp) (AllReady.cons rfl (fun K hK => ?_) AllReady.nil)
        go_simp
        obtain ⟨i6, hi6, hc6⟩ := C748.out.2.2 k6 hk6
        have hi6' : (i6 : Int) < 4 := by omega
        go_simp
        refine hK _ _ ?_
        clear hK K hc6
        refine wpAny_take (i := 10) (v := ?v51) rfl (by kernel_rfl) (by kernel_rfl) (by kernel_rfl) (fun _ _ _ h => h) (Or.inl ⟨by kernel_rfl, ?h51⟩) ?_
        case h51 => intro w; go_simp; try with_reducible rfl
        go_simp
        refine wpAny_ready (rs := [11]) (by kernel_rfl) (by simp) (AllReady.cons rfl (fun K hK => ?_) AllReady.nil)
        go_simp
        obtain ⟨y, hyy, hy⟩ := C448.out.2.2 i6 hi6
        have HY := Lib.hid hyy
        clear hyy
        go_simp
        refine hK _ _ ?_
        clear hK K hy
        refine wpAny_take (i := 13) (v := ?v53) rfl (by kernel_rfl) (by kernel_rfl) (by kernel_rfl) (fun _ _ _ h => h) (Or.inl ⟨by kernel_rfl, ?h53⟩) ?_
        case h53 => intro w; go_simp; try with_reducible rfl
        go_simp
        refine wpAny_done (by kernel_rfl) ?_ _
        go_wp2
        go_ret2
        exact ⟨_, y, rfl, HS.out, HY.out, BE48.out⟩
      · skip
        go_simp
        refine hK _ _ ?_
        clear hK K
        have RD54 := Lib.hid (RD45.out.alloc (.cells #[.int .i64 0, .int .i64 0, .int .i64 0, .int .i64 0, .int .i64 1, .int .i64 2, .int .i64 3] 3))
        have BE54 := Lib.hid (BE45.out.alloc BE45.out.size (.cells #[.int .i64 0, .int .i64 0, .int .i64 0, .int .i64 0, .int .i64 1, .int .i64 2, .int .i64 3] 3))
        have hR54 : w.heap.size < (u45.alloc (.cells #[.int .i64 0, .int .i64 0, .int .i64 0, .int .i64 0, .int .i64 1, .int .i64 2, .int .i64 3] 3)).heap.size := RD54.out.lt
        have C754 := Lib.hid (sevA_new u45 hR45)
        generalize u45.alloc (.cells #[.int .i64 0, .int .i64 0, .int .i64 0, .int .i64 0, .int .i64 1, .int .i64 2, .int .i64 3] 3) = u54 at RD54 BE54 hR54 C754 ⊢
        refine wpAny_take (i := 8) (v := ?v55) rfl (by kernel_rfl) (by kernel_rfl) (by kernel_rfl) (fun _ _ _ h => h) (Or.inl ⟨by kernel_rfl, ?h55⟩) ?_
        case h55 => intro w; go_simp; try with_reducible rfl
        go_simp
        refine wpAny_ready (rs := [4, 9]) (by kernel_rfl) (by simp) (AllReady.cons rfl (fun K hK => ?_) (AllReady.cons rfl (fun K hK => ?_) AllReady.nil))
        · skip
          go_simp
          refine hK _ _ ?_
          clear hK K
          have RD56 := Lib.hid (RD54.out.alloc (.cells #[.int .i64 (1 + v1), .int .i64 0, .int .i64 101, .int .i64 100] 3))
          have BE56 := Lib.hid (BE54.out.alloc BE54.out.size (.cells #[.int .i64 (1 + v1), .int .i64 0, .int .i64 101, .int .i64 100] 3))
          have hR56 : w.heap.size < (u54.alloc (.cells #[.int .i64 (1 + v1), .int .i64 0, .int .i64 101, .int .i64 100] 3)).heap.size := RD56.out.lt
          have C456 := Lib.hid (fouA_new u54 (1 + v1) hR54 (by omega))
          have C756 := Lib.hid (C754.out.alloc (.cells #[.int .i64 (1 + v1), .int .i64 0, .int .i64 101, .int .i64 100] 3))
          generalize u54.alloc (.cells #[.int .i64 (1 + v1), .int .i64 0, .int .i64 101, .int .i64 100] 3) = u56 at RD56 BE56 hR56 C456 C756 ⊢
          refine wpAny_ready (rs := [9]) (by kernel_rfl) (by simp) (AllReady.cons rfl (fun K hK => ?_) AllReady.nil)
          go_simp
          obtain ⟨i6, hi6, hc6⟩ := C756.out.2.2 k6 hk6
          have hi6' : (i6 : Int) < 4 := by omega
          go_simp
          refine hK _ _ ?_
          clear hK K hc6
          refine wpAny_take (i := 10) (v := ?v58) rfl (by kernel_rfl) (by kernel_rfl) (by kernel_rfl) (fun _ _ _ h => h) (Or.inl ⟨by kernel_rfl, ?h58⟩) ?_
          case h58 => intro w; go_simp; try with_reducible rfl
          go_simp
          refine wpAny_ready (rs := [11]) (by kernel_rfl) (by simp) (AllReady.cons rfl (fun K hK => ?_) AllReady.nil)
          go_simp
          obtain ⟨y, hyy, hy⟩ := C456.out.2.2 i6 hi6
          have HY := Lib.hid hyy
          clear hyy
          go_simp
          refine hK _ _ ?_
          clear hK K hy
          refine wpAny_take (i := 13) (v := ?v60) rfl (by kernel_rfl) (by kernel_rfl) (by kernel_rfl) (fun _ _ _ h => h) (Or.inl ⟨by kernel_rfl, ?h60⟩) ?_
          case h60 => intro w; go_simp; try with_reducible rfl
          go_simp
          refine wpAny_done (by kernel_rfl) ?_ _
          go_wp2
          go_ret2
          exact ⟨_, y, rfl, HS.out, HY.out, BE56.out⟩
        · skip
          go_simp
          obtain ⟨i6, hi6, hc6⟩ := C754.out.2.2 k6 hk6
          have hi6' : (i6 : Int) < 4 := by omega
          go_simp
          refine hK _ _ ?_
          clear hK K hc6
          refine wpAny_ready (rs := [4]) (by kernel_rfl) (by simp) (AllReady.cons rfl (fun K hK => ?_) AllReady.nil)
          go_simp
          refine hK _ _ ?_
          clear hK K
          have RD62 := Lib.hid (RD54.out.alloc (.cells #[.int .i64 (1 + v1), .int .i64 0, .int .i64 101, .int .i64 100] 3))
          have BE62 := Lib.hid (BE54.out.alloc BE54.out.size (.cells #[.int .i64 (1 + v1), .int .i64 0, .int .i64 101, .int .i64 100] 3))
          have hR62 : w.heap.size < (u54.alloc (.cells #[.int .i64 (1 + v1), .int .i64 0, .int .i64 101, .int .i64 100] 3)).heap.size := RD62.out.lt
          have C462 := Lib.hid (fouA_new u54 (1 + v1) hR54 (by omega))
          have C762 := Lib.hid (C754.out.alloc (.cells #[.int .i64 (1 + v1), .int .i64 0, .int .i64 101, .int .i64 100] 3))
          generalize u54.alloc (.cells #[.int .i64 (1 + v1), .int .i64 0, .int .i64 101, .int .i64 100] 3) = u62 at RD62 BE62 hR62 C462 C762 ⊢
          refine wpAny_take (i := 10) (v := ?v63) rfl (by kernel_rfl) (by kernel_rfl) (by kernel_rfl) (fun _ _ _ h => h) (Or.inl ⟨by kernel_rfl, ?h63⟩) ?_
          case h63 => intro w; go_simp; try with_reducible rfl
          go_simp
          refine wpAny_ready (rs := [11]) (by kernel_rfl) (by simp) (AllReady.cons rfl (fun K hK => ?_) AllReady.nil)
          go_simp
          obtain ⟨y, hyy, hy⟩ := C462.out.2.2 i6 hi6
          have HY := Lib.hid hyy
          clear hyy
          go_simp
          refine hK _ _ ?_
          clear hK K hy
          refine wpAny_take (i := 13) (v := ?v65) rfl (by kernel_rfl) (by kernel_rfl) (by kernel_rfl) (fun _ _ _ h => h) (Or.inl ⟨by kernel_rfl, ?h65⟩) ?_
          case h65 => intro w; go_simp; try with_reducible rfl
          go_simp
          refine wpAny_done (by kernel_rfl) ?_ _
          go_wp2
          go_ret2
          exact ⟨_, y, rfl, HS.out, HY.out, BE62.out⟩
  · skip
    go_simp
    refine hK _ _ ?_
    clear hK K
    have RD66 := Lib.hid (RD0.out.alloc (.cells #[.int .i64 0, .int .i64 0, .int .i64 0, .int .i64 0, .int .i64 1, .int .i64 2, .int .i64 3] 3))
    have BE66 := Lib.hid (BE0.out.alloc BE0.out.size (.cells #[.int .i64 0, .int .i64 0, .int .i64 0, .int .i64 0, .int .i64 1, .int .i64 2, .int .i64 3] 3))
    have hR66 : w.heap.size < (u0.alloc (.cells #[.int .i64 0, .int .i64 0, .int .i64 0, .int .i64 0, .int .i64 1, .int .i64 2, .int .i64 3] 3)).heap.size := RD66.out.lt
    have C766 := Lib.hid (sevA_new u0 hR0)
    generalize u0.alloc (.cells #[.int .i64 0, .int .i64 0, .int .i64 0, .int .i64 0, .int .i64 1, .int .i64 2, .int .i64 3] 3) = u66 at RD66 BE66 hR66 C766 ⊢
    refine wpAny_ready (rs := [2]) (by kernel_rfl) (by simp) (AllReady.cons rfl (fun K hK => ?_) AllReady.nil)
    go_simp
    refine (pick_any w.heap.size (0 + 1 + 1) 8 u66 RD66.out (by omega) (by omega) (by omega)).mono ?_
    rintro e u67 ⟨v1, ⟨hx67, hy67⟩, rfl, r67, g67⟩
    have RD67 := Lib.hid r67
    have BE67 := Lib.hid (below_R BE66.out g67)
    have hR67 : w.heap.size < u67.heap.size := r67.lt
    have C767 := Lib.hid (C766.out.grown g67)
    clear r67 g67
    have q1 : IntKind.i64.wrap (1 + v1) = 1 + v1 := by rw [IntKind.wrap_i64]; omega
    have q1' : wrap64 (1 + v1) = 1 + v1 := by unfold wrap64; omega
    go_simp
    refine hK _ _ ?_
    clear hK K
    refine wpAny_take (i := 3) (v := ?v68) rfl (by kernel_rfl) (by kernel_rfl) (by kernel_rfl) (fun _ _ _ h => h) (Or.inl ⟨by kernel_rfl, ?h68⟩) ?_
    case h68 => intro w; go_simp; try with_reducible rfl
    go_simp
    refine wpAny_ready (rs := [4, 7]) (by kernel_rfl) (by simp) (AllReady.cons rfl (fun K hK => ?_) (AllReady.cons rfl (fun K hK => ?_) AllReady.nil))
    · skip
      go_simp
      refine hK _ _ ?_
      clear hK K
      have RD69 := Lib.hid (RD67.out.alloc (.cells #[.int .i64 (1 + v1), .int .i64 0, .int .i64 101, .int .i64 100] 3))
      have BE69 := Lib.hid (BE67.out.alloc BE67.out.size (.cells #[.int .i64 (1 + v1), .int .i64 0, .int .i64 101, .int .i64 100] 3))
      have hR69 : w.heap.size < (u67.alloc (.cells #[.int .i64 (1 + v1), .int .i64 0, .int .i64 101, .int .i64 100] 3)).heap.size := RD69.out.lt
      have C469 := Lib.hid (fouA_new u67 (1 + v1) hR67 (by omega))
      have C769 := Lib.hid (C767.out.alloc (.cells #[.int .i64 (1 + v1), .int .i64 0, .int .i64 101, .int .i64 100] 3))
      generalize u67.alloc (.cells #[.int .i64 (1 + v1), .int .i64 0, .int .i64 101, .int .i64 100] 3) = u69 at RD69 BE69 hR69 C469 C769 ⊢
      refine wpAny_ready (rs := [7]) (by kernel_rfl) (by simp) (AllReady.cons rfl (fun K hK => ?_) AllReady.nil)
      go_simp
      refine (pick_any w.heap.size (0 + 1 + 1 + 1) 7 u69 RD69.out (by omega) (by omega) (by omega)).mono ?_
      rintro e u70 ⟨x70, ⟨hx70, hy70⟩, rfl, r70, g70⟩
      have RD70 := Lib.hid r70
      have BE70 := Lib.hid (below_R BE69.out g70)
      have hR70 : w.heap.size < u70.heap.size := r70.lt
      have C770 := Lib.hid (C769.out.grown g70)
      have C470 := Lib.hid (C469.out.grown g70)
      clear r70 g70
      go_simp
      refine hK _ _ ?_
      clear hK K
      obtain ⟨k6, rfl⟩ := Int.eq_ofNat_of_zero_le hx70
      have hk6 : k6 < 7 := by omega
      have hk6' : (k6 : Int) < 7 := by omega
      refine wpAny_take (i := 12) (v := ?v71) rfl (by kernel_rfl) (by kernel_rfl) (by kernel_rfl) (fun _ _ _ h => h) (Or.inl ⟨by kernel_rfl, ?h71⟩) ?_
      case h71 => intro w; go_simp; try with_reducible rfl
      go_simp
      refine wpAny_take (i := 8) (v := ?v72) rfl (by kernel_rfl) (by kernel_rfl) (by kernel_rfl) (fun _ _ _ h => h) (Or.inl ⟨by kernel_rfl, ?h72⟩) ?_
      case h72 => intro w; go_simp; try with_reducible rfl
      go_simp
      refine wpAny_ready (rs := [9]) (by kernel_rfl) (by simp) (AllReady.cons rfl (fun K hK => ?_) AllReady.nil)
      go_simp
      obtain ⟨i6, hi6, hc6⟩ := C770.out.2.2 k6 hk6
      have hi6' : (i6 : Int) < 4 := by omega
      go_simp
      refine hK _ _ ?_
      clear hK K hc6
      refine wpAny_take (i := 10) (v := ?v74) rfl (by kernel_rfl) (by kernel_rfl) (by kernel_rfl) (fun _ _ _ h => h) (Or.inl ⟨by kernel_rfl, ?h74⟩) ?_
      case h74 => intro w; go_simp; try with_reducible rfl
      go_simp
      refine wpAny_ready (rs := [11]) (by kernel_rfl) (by simp) (AllReady.cons rfl (fun K hK => ?_) AllReady.nil)
      go_simp
      obtain ⟨y, hyy, hy⟩ := C470.out.2.2 i6 hi6
      have HY := Lib.hid hyy
      clear hyy
      go_simp
      refine hK _ _ ?_
      clear hK K hy
      refine wpAny_take (i := 13) (v := ?v76) rfl (by kernel_rfl) (by kernel_rfl) (by kernel_rfl) (fun _ _ _ h => h) (Or.inl ⟨by kernel_rfl, ?h76⟩) ?_
      case h76 => intro w; go_simp; try with_reducible rfl
      go_simp
      refine wpAny_done (by kernel_rfl) ?_ _
      go_wp2
      go_ret2
      exact ⟨_, y, rfl, HS.out, HY.out, BE70.out⟩
    · skip
      go_simp
      refine (pick_any w.heap.size (0 + 1 + 1 + 1) 7 u67 RD67.out (by omega) (by omega) (by omega)).mono ?_
      rintro e u77 ⟨x77, ⟨hx77, hy77⟩, rfl, r77, g77⟩
      have RD77 := Lib.hid r77
      have BE77 := Lib.hid (below_R BE67.out g77)
      have hR77 : w.heap.size < u77.heap.size := r77.lt
      have C777 := Lib.hid (C767.out.grown g77)
      clear r77 g77
      go_simp
      refine hK _ _ ?_
      clear hK K
      obtain ⟨k6, rfl⟩ := Int.eq_ofNat_of_zero_le hx77
      have hk6 : k6 < 7 := by omega
      have hk6' : (k6 : Int) < 7 := by omega
      refine wpAny_take (i := 12) (v := ?v78) rfl (by kernel_rfl) (by kernel_rfl) (by kernel_rfl) (fun _ _ _ h => h) (Or.inl ⟨by kernel_rfl, ?h78⟩) ?_
      case h78 => intro w; go_simp; try with_reducible rfl
      go_simp
      refine wpAny_take (i := 8) (v := ?v79) rfl (by kernel_rfl) (by kernel_rfl) (by kernel_rfl) (fun _ _ _ h => h) (Or.inl ⟨by kernel_rfl, ?h79⟩) ?_
      case h79 => intro w; go_simp; try with_reducible rfl
      go_simp
      refine wpAny_ready (rs := [4, 9]) (by kernel_rfl) (by simp) (AllReady.cons rfl (fun K hK => ?_) (AllReady.cons rfl (fun K hK => ?_) AllReady.nil))
      · skip
        go_simp
        refine hK _ _ ?_
        clear hK K
        have RD80 := Lib.hid (RD77.out.alloc (.cells #[.int .i64 (1 + v1), .int .i64 0, .int .i64 101, .int .i64 100] 3))
        have BE80 := Lib.hid (BE77.out.alloc BE77.out.size (.cells #[.int .i64 (1 + v1), .int .i64 0, .int .i64 101, .int .i64 100] 3))
        have hR80 : w.heap.size < (u77.alloc (.cells #[.int .i64 (1 + v1), .int .i64 0, .int .i64 101, .int .i64 100] 3)).heap.size := RD80.out.lt
        have C480 := Lib.hid (fouA_new u77 (1 + v1) hR77 (by omega))
        have C780 := Lib.hid (C777.out.alloc (.cells #[.int .i64 (1 + v1), .int .i64 0, .int .i64 101, .int .i64 100] 3))
        generalize u77.alloc (.cells #[.int .i64 (1 + v1), .int .i64 0, .int .i64 101, .int .i64 100] 3) = u80 at RD80 BE80 hR80 C480 C780 ⊢
        refine wpAny_ready (rs := [9]) (by kernel_rfl) (by simp) (AllReady.cons rfl (fun K hK => ?_) AllReady.nil)
        go_simp
        obtain ⟨i6, hi6, hc6⟩ := C780.out.2.2 k6 hk6
        have hi6' : (i6 : Int) < 4 := by omega
        go_simp
        refine hK _ _ ?_
        clear hK K hc6
        refine wpAny_take (i := 10) (v := ?v82) rfl (by kernel_rfl) (by kernel_rfl) (by kernel_rfl) (fun _ _ _ h => h) (Or.inl ⟨by kernel_rfl, ?h82⟩) ?_
        case h82 => intro w; go_simp; try with_reducible rfl
        go_simp
        refine wpAny_ready (rs := [11]) (by kernel_rfl) (by simp) (AllReady.cons rfl (fun K hK => ?_) AllReady.nil)
        go_simp
        obtain ⟨y, hyy, hy⟩ := C480.out.2.2 i6 hi6
        have HY := Lib.hid hyy
        clear hyy
        go_simp
        refine hK _ _ ?_
        clear hK K hy
        refine wpAny_take (i := 13) (v := ?v84) rfl (by kernel_rfl) (by kernel_rfl) (by kernel_rfl) (fun _ _ _ h => h) (Or.inl ⟨by kernel_rfl, ?h84⟩) ?_
        case h84 => intro w; go_simp; try with_reducible rfl
        go_simp
        refine wpAny_done (by kernel_rfl) ?_ _
        go_wp2
        go_ret2
        exact ⟨_, y, rfl, HS.out, HY.out, BE80.out⟩
      · skip
        go_simp
        obtain ⟨i6, hi6, hc6⟩ := C777.out.2.2 k6 hk6
        have hi6' : (i6 : Int) < 4 := by omega
        go_simp
        refine hK _ _ ?_
        clear hK K hc6
        refine wpAny_ready (rs := [4]) (by kernel_rfl) (by simp) (AllReady.cons rfl (fun K hK => ?_) AllReady.nil)
        go_simp
        refine hK _ _ ?_
        clear hK K
        have RD86 := Lib.hid (RD77.out.alloc (.cells #[.int .i64 (1 + v1), .int .i64 0, .int .i64 101, .int .i64 100] 3))
        have BE86 := Lib.hid (BE77.out.alloc BE77.out.size (.cells #[.int .i64 (1 + v1), .int .i64 0, .int .i64 101, .int .i64 100] 3))
        have hR86 : w.heap.size < (u77.alloc (.cells #[.int .i64 (1 + v1), .int .i64 0, .int .i64 101, .int .i64 100] 3)).heap.size := RD86.out.lt
        have C486 := Lib.hid (fouA_new u77 (1 + v1) hR77 (by omega))
        have C786 := Lib.hid (C777.out.alloc (.cells #[.int .i64 (1 + v1), .int .i64 0, .int .i64 101, .int .i64 100] 3))
        generalize u77.alloc (.cells #[.int .i64 (1 + v1), .int .i64 0, .int .i64 101, .int .i64 100] 3) = u86 at RD86 BE86 hR86 C486 C786 ⊢
        refine wpAny_take (i := 10) (v := ?v87) rfl (by kernel_rfl) (by kernel_rfl) (by kernel_rfl) (fun _ _ _ h => h) (Or.inl ⟨by kernel_rfl, ?h87⟩) ?_
        case h87 => intro w; go_simp; try with_reducible rfl
        go_simp
        refine wpAny_ready (rs := [11]) (by kernel_rfl) (by simp) (AllReady.cons rfl (fun K hK => ?_) AllReady.nil)
        go_simp
        obtain ⟨y, hyy, hy⟩ := C486.out.2.2 i6 hi6
        have HY := Lib.hid hyy
        clear hyy
        go_simp
        refine hK _ _ ?_
        clear hK K hy
        refine wpAny_take (i := 13) (v := ?v89) rfl (by kernel_rfl) (by kernel_rfl) (by kernel_rfl) (fun _ _ _ h => h) (Or.inl ⟨by kernel_rfl, ?h89⟩) ?_
        case h89 => intro w; go_simp; try with_reducible rfl
        go_simp
        refine wpAny_done (by kernel_rfl) ?_ _
        go_wp2
        go_ret2
        exact ⟨_, y, rfl, HS.out, HY.out, BE86.out⟩
end Go.Proofs.Ytbjmkbajabbogaa
