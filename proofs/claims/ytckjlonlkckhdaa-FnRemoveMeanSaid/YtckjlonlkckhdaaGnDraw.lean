/-
  What the laws of chapter 13 draw. No condition.
-/
import Derived.Test.YtckjlonlkckhdaaSeqDraw2
namespace Go.Proofs.Ytckjlonlkckhdaa
open Go.RowKit

/-- A drawn gain and a sequence; and a wanted peak. -/
def DrawPG (w : World) (e : Ending) (w' : World) : Prop :=
  ∃ g xs b c, e = .returned (.tuple #[.int .i64 g, .slice (some ⟨b, 0, none⟩) xs.length c]) ∧ (0 ≤ g ∧ g ≤ 4097) ∧ DrawnL w' b c xs ∧ Below w.heap.size w w'
def DrawPGU (w : World) (e : Ending) (w' : World) : Prop :=
  ∃ g xs b c u, e = .returned (.tuple #[.int .i64 g, .slice (some ⟨b, 0, none⟩) xs.length c, .int .i64 u]) ∧ (0 ≤ g ∧ g ≤ 4097) ∧ (0 ≤ u ∧ u ≤ 1001) ∧ DrawnL w' b c xs ∧ Below w.heap.size w w'
/-- Block b, not R, holds seven indices below 4. -/
def SevG (W : World) (R b : Nat) : Prop := b < W.heap.size ∧ b ≠ R ∧ ∀ k, k < 7 → ∃ i : Nat, i < 4 ∧ W.cell? ⟨b, k, none⟩ = some (.int .i64 (i : Int))
/-- Block b, not R, holds four wanted peaks. -/
def FouG (W : World) (R b : Nat) : Prop := b < W.heap.size ∧ b ≠ R ∧ ∀ k, k < 4 → ∃ y : Int, (0 ≤ y ∧ y ≤ 1001) ∧ W.cell? ⟨b, k, none⟩ = some (.int .i64 y)
section
variable {W W' : World} {R b : Nat}
theorem SevG.grown (h : SevG W R b) (g : W.grownBy W' (some R)) : SevG W' R b :=
  ⟨Nat.lt_of_lt_of_le h.1 g.size, h.2.1, fun k hk => by rw [World.cell?_of_block (g.block b h.1 (fun e => h.2.1 (by injection e)))]; exact h.2.2 k hk⟩
theorem FouG.grown (h : FouG W R b) (g : W.grownBy W' (some R)) : FouG W' R b :=
  ⟨Nat.lt_of_lt_of_le h.1 g.size, h.2.1, fun k hk => by rw [World.cell?_of_block (g.block b h.1 (fun e => h.2.1 (by injection e)))]; exact h.2.2 k hk⟩
theorem SevG.alloc (h : SevG W R b) (o : Obj) : SevG (W.alloc o) R b := h.grown (World.grownBy_alloc W o (some R))
theorem FouG.alloc (h : FouG W R b) (o : Obj) : FouG (W.alloc o) R b := h.grown (World.grownBy_alloc W o (some R))
end
theorem sevG_new (W : World) {R : Nat} (hR : R < W.heap.size) : SevG (W.alloc (.cells #[.int .i64 0, .int .i64 0, .int .i64 0, .int .i64 0, .int .i64 1, .int .i64 2, .int .i64 3] 3)) R W.heap.size :=
  ⟨by simp, by omega, fun k hk => by
    rw [cell_of_row _ _ _ _ _ _ (heap_alloc_last W _)]
    match k, hk with
    | 0, _ | 1, _ | 2, _ | 3, _ => exact ⟨0, by omega, rfl⟩
    | 4, _ => exact ⟨1, by omega, rfl⟩
    | 5, _ => exact ⟨2, by omega, rfl⟩
    | 6, _ => exact ⟨3, by omega, rfl⟩
    | (m + 7), h => exact absurd h (by omega)⟩
theorem fouG_new (W : World) (x : Int) {R : Nat} (hR : R < W.heap.size) (hx : 0 ≤ x ∧ x ≤ 1001) : FouG (W.alloc (.cells #[.int .i64 x, .int .i64 0, .int .i64 1001, .int .i64 1000] 3)) R W.heap.size :=
  ⟨by simp, by omega, fun k hk => by
    rw [cell_of_row _ _ _ _ _ _ (heap_alloc_last W _)]
    match k, hk with
    | 0, _ => exact ⟨x, hx, rfl⟩
    | 1, _ => exact ⟨0, by omega, rfl⟩
    | 2, _ => exact ⟨1001, by omega, rfl⟩
    | 3, _ => exact ⟨1000, by omega, rfl⟩
    | (m + 4), h => exact absurd h (by omega)⟩
def GainP (R p : Nat) (w : World) (e : Ending) (w' : World) : Prop :=
  ∃ g, e = .returned (.int .i64 g) ∧ (0 ≤ g ∧ g ≤ 4097) ∧ Rd w' R (p + 3) ∧ w.grownBy w' (some R)
set_option maxHeartbeats 2000000 in
theorem gain_any (R p : Nat) (w : World) (hr : Rd w R p) (hp : p ≤ 274877906944) : Calls Try.prog 38 #[.pointer (some ⟨R, 0, none⟩)] w (GainP R p w) := by
  have R0 := Lib.hid hr
  clear hr
  go_enter Try.func38, Try.ntmps38
  go_wp2_with fail
  refine (pick_any R p 256 w R0.out (by omega) (by omega) (by omega)).mono ?_
  rintro e w2 ⟨x1, ⟨hx1, hx1'⟩, rfl, r2, g2⟩
  have R2 := Lib.hid r2
  have N2 := Lib.hid g2
  clear r2 g2 R0
  go_wp2_with fail
  refine (pick_any R (p + 1) 256 w2 R2.out (by omega) (by omega) (by omega)).mono ?_
  rintro e w3 ⟨x2, ⟨hx2, hx2'⟩, rfl, r3, g3⟩
  have R3 := Lib.hid r3
  have N3 := Lib.hid (grown_trans N2.out g3)
  have hs3 : R < w3.heap.size := r3.lt
  clear r3 g3 R2 N2
  go_wp2_with fail
  refine (pick_any R (p + 1 + 1) 10 _ ((R3.out.alloc _).alloc _) (by omega) (by omega) (by omega)).mono ?_
  rintro e w4 ⟨v3, ⟨hv3, hv3'⟩, rfl, r4, g4⟩
  obtain ⟨k, rfl⟩ := Int.eq_ofNat_of_zero_le hv3
  have hk : k < 10 := by omega
  have hcell : ∃ j : Nat, j < 7 ∧ w4.cell? ⟨w3.heap.size + 1, k, none⟩ = some (.int .i64 (j : Int)) := by
    rw [(cell_grown2s g4 hs3).2]
    match k, hk with
    | 0, _ | 1, _ => exact ⟨0, by decide, rfl⟩
    | 2, _ | 3, _ => exact ⟨1, by decide, rfl⟩
    | 4, _ | 5, _ => exact ⟨2, by decide, rfl⟩
    | 6, _ => exact ⟨3, by decide, rfl⟩
    | 7, _ => exact ⟨4, by decide, rfl⟩
    | 8, _ => exact ⟨5, by decide, rfl⟩
    | 9, _ => exact ⟨6, by decide, rfl⟩
    | (m + 10), h => exact absurd h (by omega)
  obtain ⟨j, hj, hc⟩ := hcell
  have hcell2 : ∃ x : Int, w4.cell? ⟨w3.heap.size, j, none⟩ = some (.int .i64 x) ∧ (0 ≤ x ∧ x ≤ 4097) := by
    rw [(cell_grown2s g4 hs3).1]
    match j, hj with
    | 0, _ => exact ⟨_, rfl, by omega⟩
    | 1, _ => exact ⟨_, rfl, by omega⟩
    | 2, _ => exact ⟨_, rfl, by omega⟩
    | 3, _ => exact ⟨_, rfl, by omega⟩
    | 4, _ => exact ⟨_, rfl, by omega⟩
    | 5, _ => exact ⟨_, rfl, by omega⟩
    | 6, _ => exact ⟨_, rfl, by omega⟩
    | (m + 7), h => exact absurd h (by omega)
  obtain ⟨x, hc2, hsx⟩ := hcell2
  have HP : Hid (GainP R p w (.returned (.int .i64 x)) w4) := Lib.hid ⟨x, rfl, hsx, r4, grown_trans (grown_alloc (grown_alloc N3.out _) _) g4⟩
  clear r4 g4 hv3 hv3' hsx
  go_wp2
  go_ret
  exact HP.out
set_option maxRecDepth 100000 in
set_option maxHeartbeats 1000000 in
theorem drawPeakOf_any (a : Option Addr) (c : Nat) (ds : List Int) (w : World) (hx : Ints .u8 w w.heap.size a ds) (hw : ∀ n ∈ ds, isByte n) (hc : ds.length ≤ c) (hcm : c ≤ maxLen) :
    Calls Try.prog 12 #[.slice a ds.length c] w (DrawP1 w) := by
  have hl : ds.length ≤ maxLen := Nat.le_trans hc hcm
  go_enter Try.func12, Try.ntmps12
  go_wp2_with fail
  refine (open_any a c ds w hx hw hc hl hcm).mono ?_
  rintro e w1 ⟨rfl, r1, b1⟩
  have h1 : w.heap.size < w1.heap.size := r1.lt
  have R1 := Lib.hid r1
  have B1 := Lib.hid b1
  clear hx hw hc hcm hl r1 b1
  go_wp2_with fail
  refine (sequence_any w.heap.size 0 9 6 w1 R1.out (by omega) (by omega) (by omega) (by omega) (by omega)).mono ?_
  rintro e w2 ⟨xs, ad, nxs, cap, p5, rfl, lxs, s2, x2, r2, hp5, g2⟩
  obtain rfl : xs.length = nxs := x2.len
  have h2 : w.heap.size < w2.heap.size := r2.lt
  have R2 := Lib.hid r2
  have B2 := Lib.hid (below_R B1.out g2)
  have SX := Lib.hid s2
  have X2 := Lib.hid x2
  clear r2 g2 s2 x2
  have HP : Hid (DrawP1 w (.returned (.slice (some ⟨ad, 0, none⟩) xs.length cap)) w2) := ⟨xs, ad, cap, rfl, drawnL_grow X2.out (by omega) SX.out, B2.out⟩
  go_wp2
  go_ret
  exact HP.out
set_option maxRecDepth 100000 in
set_option maxHeartbeats 1000000 in
theorem drawRemoveMean_any (a : Option Addr) (c : Nat) (ds : List Int) (w : World) (hx : Ints .u8 w w.heap.size a ds) (hw : ∀ n ∈ ds, isByte n) (hc : ds.length ≤ c) (hcm : c ≤ maxLen) :
    Calls Try.prog 25 #[.slice a ds.length c] w (DrawP1 w) := by
  have hl : ds.length ≤ maxLen := Nat.le_trans hc hcm
  go_enter Try.func25, Try.ntmps25
  go_wp2_with fail
  refine (open_any a c ds w hx hw hc hl hcm).mono ?_
  rintro e w1 ⟨rfl, r1, b1⟩
  have h1 : w.heap.size < w1.heap.size := r1.lt
  have R1 := Lib.hid r1
  have B1 := Lib.hid b1
  clear hx hw hc hcm hl r1 b1
  go_wp2_with fail
  refine (sequence_any w.heap.size 0 9 9 w1 R1.out (by omega) (by omega) (by omega) (by omega) (by omega)).mono ?_
  rintro e w2 ⟨xs, ad, nxs, cap, p5, rfl, lxs, s2, x2, r2, hp5, g2⟩
  obtain rfl : xs.length = nxs := x2.len
  have h2 : w.heap.size < w2.heap.size := r2.lt
  have R2 := Lib.hid r2
  have B2 := Lib.hid (below_R B1.out g2)
  have SX := Lib.hid s2
  have X2 := Lib.hid x2
  clear r2 g2 s2 x2
  have HP : Hid (DrawP1 w (.returned (.slice (some ⟨ad, 0, none⟩) xs.length cap)) w2) := ⟨xs, ad, cap, rfl, drawnL_grow X2.out (by omega) SX.out, B2.out⟩
  go_wp2
  go_ret
  exact HP.out
set_option maxRecDepth 100000 in
set_option maxHeartbeats 1000000 in
theorem drawApplyGain_any (a : Option Addr) (c : Nat) (ds : List Int) (w : World) (hx : Ints .u8 w w.heap.size a ds) (hw : ∀ n ∈ ds, isByte n) (hc : ds.length ≤ c) (hcm : c ≤ maxLen) :
    Calls Try.prog 20 #[.slice a ds.length c] w (DrawPG w) := by
  have hl : ds.length ≤ maxLen := Nat.le_trans hc hcm
  go_enter Try.func20, Try.ntmps20
  go_wp2_with fail
  refine (open_any a c ds w hx hw hc hl hcm).mono ?_
  rintro e w1 ⟨rfl, r1, b1⟩
  have h1 : w.heap.size < w1.heap.size := r1.lt
  have R1 := Lib.hid r1
  have B1 := Lib.hid b1
  clear hx hw hc hcm hl r1 b1
  go_wp2_with fail
  refine (gain_any w.heap.size 0 w1 R1.out (by omega)).mono ?_
  rintro e w2 ⟨gn, rfl, hgn, r2, g2⟩
  have h2 : w.heap.size < w2.heap.size := r2.lt
  have R2 := Lib.hid r2
  have B2 := Lib.hid (below_R B1.out g2)
  have HGn := Lib.hid hgn
  clear r2 g2 hgn
  go_wp2_with fail
  refine (sequence_any w.heap.size (0 + 3) 9 12 w2 R2.out (by omega) (by omega) (by omega) (by omega) (by omega)).mono ?_
  rintro e w3 ⟨xs, ad, nxs, cap, p5, rfl, lxs, s2, x2, r2, hp5, g2⟩
  obtain rfl : xs.length = nxs := x2.len
  have h3 : w.heap.size < w3.heap.size := r2.lt
  have R3 := Lib.hid r2
  have B3 := Lib.hid (below_R B2.out g2)
  have SX := Lib.hid s2
  have X3 := Lib.hid x2
  clear r2 g2 s2 x2
  go_wp2
  go_ret2
  exact ⟨gn, xs, ad, cap, rfl, HGn.out, drawnL_grow X3.out (by omega) SX.out, B3.out⟩
set_option maxRecDepth 100000 in
set_option maxHeartbeats 8000000 in
theorem drawGainStep_any (a : Option Addr) (c : Nat) (ds : List Int) (w : World) (hx : Ints .u8 w w.heap.size a ds) (hw : ∀ n ∈ ds, isByte n) (hc : ds.length ≤ c) (hcm : c ≤ maxLen) :
    Calls Try.prog 17 #[.slice a ds.length c] w (DrawPGU w) := by
  have hl : ds.length ≤ maxLen := Nat.le_trans hc hcm
  go_enter Try.func17, Try.ntmps17
  go_wp2_with fail
  refine (open_any a c ds w hx hw hc hl hcm).mono ?_
  rintro e w1 ⟨rfl, r1, b1⟩
  have h1 : w.heap.size < w1.heap.size := r1.lt
  have R1 := Lib.hid r1
  have B1 := Lib.hid b1
  clear hx hw hc hcm hl r1 b1
  go_wp2_with fail
  refine (gain_any w.heap.size 0 w1 R1.out (by omega)).mono ?_
  rintro e w2 ⟨gn, rfl, hgn, r2, g2⟩
  have h2 : w.heap.size < w2.heap.size := r2.lt
  have R2 := Lib.hid r2
  have B2 := Lib.hid (below_R B1.out g2)
  have HGn := Lib.hid hgn
  clear r2 g2 hgn
  go_wp2_with fail
  refine (sequence_any w.heap.size (0 + 3) 6 12 w2 R2.out (by omega) (by omega) (by omega) (by omega) (by omega)).mono ?_
  rintro e w3 ⟨xs, ad, nxs, cap, p5, rfl, lxs, s2, x2, r2, hp5, g2⟩
  obtain rfl : xs.length = nxs := x2.len
  have h3 : w.heap.size < w3.heap.size := r2.lt
  have R3 := Lib.hid r2
  have B3 := Lib.hid (below_R B2.out g2)
  have SX := Lib.hid s2
  have X3 := Lib.hid x2
  clear r2 g2 s2 x2
  have hRb := h2
  have hpb : p5 ≤ 1000 := by omega
  go_wp2_with fail
  refine wp_region_any (by kernel_rfl) ?_
  change wpAny _ _ _ _ _ _ _ (World.drew _)
  have RD0 : Hid (Rd w3.drew w.heap.size p5) := R3.out
  have BE0 : Hid (Below w.heap.size w w3.drew) := below_drewN B3.out 1
  have LI0 : Hid (Grow .i64 3 w3.drew w2.heap.size (some ⟨ad, 0, none⟩) xs.length cap xs) := X3.out
  have hR0 : w.heap.size < w3.drew.heap.size := RD0.out.lt
  clear R1 R2 R3 B1 B2 B3 X3
  generalize w3.drew = u0 at RD0 BE0 LI0 hR0 ⊢
  refine wpAny_take (i := 0) (v := ?v1) rfl (by kernel_rfl) (by kernel_rfl) (by kernel_rfl) (fun _ _ _ h => h) (Or.inl ⟨by kernel_rfl, ?h1⟩) ?_
  case h1 => intro w; go_simp; try with_reducible rfl
  go_simp
  refine wpAny_take (i := 1) (v := ?v2) rfl (by kernel_rfl) (by kernel_rfl) (by kernel_rfl) (fun _ _ _ h => h) (Or.inl ⟨by kernel_rfl, ?h2⟩) ?_
  case h2 => intro w; go_simp; try with_reducible rfl
  go_simp
  refine wpAny_take (i := 2) (v := ?v3) rfl (by kernel_rfl) (by kernel_rfl) (by kernel_rfl) (fun _ _ _ h => h) (Or.inl ⟨by kernel_rfl, ?h3⟩) ?_
  case h3 => intro w; go_simp; try with_reducible rfl
  go_simp
  refine wpAny_take (i := 7) (v := ?v4) rfl (by kernel_rfl) (by kernel_rfl) (by kernel_rfl) (fun _ _ _ h => h) (Or.inl ⟨by kernel_rfl, ?h4⟩) ?_
  case h4 => intro w; go_simp; try with_reducible rfl
  go_simp
  refine wpAny_ready (rs := [3, 6]) (by kernel_rfl) (by simp) (AllReady.cons rfl (fun K hK => ?_) (AllReady.cons rfl (fun K hK => ?_) AllReady.nil))
  · skip
    go_simp
    refine (pick_any w.heap.size (p5) 200 u0 RD0.out (by omega) (by omega) (by omega)).mono ?_
    rintro e u5 ⟨v1, ⟨hx5, hy5⟩, rfl, r5, g5⟩
    have RD5 := Lib.hid r5
    have BE5 := Lib.hid (below_R BE0.out g5)
    have LI5 := Lib.hid (LI0.out.grownR g5 hRb)
    have hR5 : w.heap.size < u5.heap.size := r5.lt
    clear r5 g5
    have q1 : IntKind.i64.wrap (1 + v1) = 1 + v1 := by rw [IntKind.wrap_i64]; omega
    have q1' : wrap64 (1 + v1) = 1 + v1 := by unfold wrap64; omega
    go_simp
    refine hK _ _ ?_
    clear hK K
    refine wpAny_take (i := 4) (v := ?v6) rfl (by kernel_rfl) (by kernel_rfl) (by kernel_rfl) (fun _ _ _ h => h) (Or.inl ⟨by kernel_rfl, ?h6⟩) ?_
    case h6 => intro w; go_simp; try with_reducible rfl
    go_simp
    refine wpAny_ready (rs := [5, 6, 8]) (by kernel_rfl) (by simp) (AllReady.cons rfl (fun K hK => ?_) (AllReady.cons rfl (fun K hK => ?_) (AllReady.cons rfl (fun K hK => ?_) AllReady.nil)))
    · skip
      go_simp
      refine hK _ _ ?_
      clear hK K
      have RD7 := Lib.hid (RD5.out.alloc (.cells #[.int .i64 (1 + v1), .int .i64 0, .int .i64 1001, .int .i64 1000] 3))
      have BE7 := Lib.hid (BE5.out.alloc BE5.out.size (.cells #[.int .i64 (1 + v1), .int .i64 0, .int .i64 1001, .int .i64 1000] 3))
      have LI7 := Lib.hid (LI5.out.alloc (.cells #[.int .i64 (1 + v1), .int .i64 0, .int .i64 1001, .int .i64 1000] 3))
      have hR7 : w.heap.size < (u5.alloc (.cells #[.int .i64 (1 + v1), .int .i64 0, .int .i64 1001, .int .i64 1000] 3)).heap.size := RD7.out.lt
      have C47 := Lib.hid (fouG_new u5 (1 + v1) hR5 (by omega))
      generalize u5.alloc (.cells #[.int .i64 (1 + v1), .int .i64 0, .int .i64 1001, .int .i64 1000] 3) = u7 at RD7 BE7 LI7 hR7 C47 ⊢
      refine wpAny_ready (rs := [6, 8]) (by kernel_rfl) (by simp) (AllReady.cons rfl (fun K hK => ?_) (AllReady.cons rfl (fun K hK => ?_) AllReady.nil))
      · skip
        go_simp
        refine hK _ _ ?_
        clear hK K
        have RD8 := Lib.hid (RD7.out.alloc (.cells #[.int .i64 0, .int .i64 0, .int .i64 0, .int .i64 0, .int .i64 1, .int .i64 2, .int .i64 3] 3))
        have BE8 := Lib.hid (BE7.out.alloc BE7.out.size (.cells #[.int .i64 0, .int .i64 0, .int .i64 0, .int .i64 0, .int .i64 1, .int .i64 2, .int .i64 3] 3))
        have LI8 := Lib.hid (LI7.out.alloc (.cells #[.int .i64 0, .int .i64 0, .int .i64 0, .int .i64 0, .int .i64 1, .int .i64 2, .int .i64 3] 3))
        have hR8 : w.heap.size < (u7.alloc (.cells #[.int .i64 0, .int .i64 0, .int .i64 0, .int .i64 0, .int .i64 1, .int .i64 2, .int .i64 3] 3)).heap.size := RD8.out.lt
        have C78 := Lib.hid (sevG_new u7 hR7)
        have C48 := Lib.hid (C47.out.alloc (.cells #[.int .i64 0, .int .i64 0, .int .i64 0, .int .i64 0, .int .i64 1, .int .i64 2, .int .i64 3] 3))
        generalize u7.alloc (.cells #[.int .i64 0, .int .i64 0, .int .i64 0, .int .i64 0, .int .i64 1, .int .i64 2, .int .i64 3] 3) = u8 at RD8 BE8 LI8 hR8 C78 C48 ⊢
        refine wpAny_ready (rs := [8]) (by kernel_rfl) (by simp) (AllReady.cons rfl (fun K hK => ?_) AllReady.nil)
        go_simp
        refine (pick_any w.heap.size (p5 + 1) 7 u8 RD8.out (by omega) (by omega) (by omega)).mono ?_
        rintro e u9 ⟨x9, ⟨hx9, hy9⟩, rfl, r9, g9⟩
        have RD9 := Lib.hid r9
        have BE9 := Lib.hid (below_R BE8.out g9)
        have LI9 := Lib.hid (LI8.out.grownR g9 hRb)
        have hR9 : w.heap.size < u9.heap.size := r9.lt
        have C79 := Lib.hid (C78.out.grown g9)
        have C49 := Lib.hid (C48.out.grown g9)
        clear r9 g9
        go_simp
        refine hK _ _ ?_
        clear hK K
        obtain ⟨k6, rfl⟩ := Int.eq_ofNat_of_zero_le hx9
        have hk6 : k6 < 7 := by omega
        have hk6' : (k6 : Int) < 7 := by omega
        refine wpAny_take (i := 13) (v := ?v10) rfl (by kernel_rfl) (by kernel_rfl) (by kernel_rfl) (fun _ _ _ h => h) (Or.inl ⟨by kernel_rfl, ?h10⟩) ?_
        case h10 => intro w; go_simp; try with_reducible rfl
        go_simp
        refine wpAny_take (i := 14) (v := ?v11) rfl (by kernel_rfl) (by kernel_rfl) (by kernel_rfl) (fun _ _ _ h => h) (Or.inl ⟨by kernel_rfl, ?h11⟩) ?_
        case h11 => intro w; go_simp; try with_reducible rfl
        go_simp
        refine wpAny_take (i := 9) (v := ?v12) rfl (by kernel_rfl) (by kernel_rfl) (by kernel_rfl) (fun _ _ _ h => h) (Or.inl ⟨by kernel_rfl, ?h12⟩) ?_
        case h12 => intro w; go_simp; try with_reducible rfl
        go_simp
        refine wpAny_ready (rs := [10]) (by kernel_rfl) (by simp) (AllReady.cons rfl (fun K hK => ?_) AllReady.nil)
        go_simp
        obtain ⟨i6, hi6, hc6⟩ := C79.out.2.2 k6 hk6
        have hi6' : (i6 : Int) < 4 := by omega
        go_simp
        refine hK _ _ ?_
        clear hK K hc6
        refine wpAny_take (i := 11) (v := ?v14) rfl (by kernel_rfl) (by kernel_rfl) (by kernel_rfl) (fun _ _ _ h => h) (Or.inl ⟨by kernel_rfl, ?h14⟩) ?_
        case h14 => intro w; go_simp; try with_reducible rfl
        go_simp
        refine wpAny_ready (rs := [12]) (by kernel_rfl) (by simp) (AllReady.cons rfl (fun K hK => ?_) AllReady.nil)
        go_simp
        obtain ⟨y, hyy, hy⟩ := C49.out.2.2 i6 hi6
        have HY := Lib.hid hyy
        clear hyy
        go_simp
        refine hK _ _ ?_
        clear hK K hy
        refine wpAny_take (i := 15) (v := ?v16) rfl (by kernel_rfl) (by kernel_rfl) (by kernel_rfl) (fun _ _ _ h => h) (Or.inl ⟨by kernel_rfl, ?h16⟩) ?_
        case h16 => intro w; go_simp; try with_reducible rfl
        go_simp
        refine wpAny_done (by kernel_rfl) ?_ _
        go_wp2
        go_ret3
        exact ⟨gn, xs, ad, cap, y, rfl, HGn.out, HY.out, drawnL_grow LI9.out (by omega) SX.out, BE9.out⟩
      · skip
        go_simp
        refine (pick_any w.heap.size (p5 + 1) 7 u7 RD7.out (by omega) (by omega) (by omega)).mono ?_
        rintro e u17 ⟨x17, ⟨hx17, hy17⟩, rfl, r17, g17⟩
        have RD17 := Lib.hid r17
        have BE17 := Lib.hid (below_R BE7.out g17)
        have LI17 := Lib.hid (LI7.out.grownR g17 hRb)
        have hR17 : w.heap.size < u17.heap.size := r17.lt
        have C417 := Lib.hid (C47.out.grown g17)
        clear r17 g17
        go_simp
        refine hK _ _ ?_
        clear hK K
        obtain ⟨k6, rfl⟩ := Int.eq_ofNat_of_zero_le hx17
        have hk6 : k6 < 7 := by omega
        have hk6' : (k6 : Int) < 7 := by omega
        refine wpAny_take (i := 13) (v := ?v18) rfl (by kernel_rfl) (by kernel_rfl) (by kernel_rfl) (fun _ _ _ h => h) (Or.inl ⟨by kernel_rfl, ?h18⟩) ?_
        case h18 => intro w; go_simp; try with_reducible rfl
        go_simp
        refine wpAny_take (i := 14) (v := ?v19) rfl (by kernel_rfl) (by kernel_rfl) (by kernel_rfl) (fun _ _ _ h => h) (Or.inl ⟨by kernel_rfl, ?h19⟩) ?_
        case h19 => intro w; go_simp; try with_reducible rfl
        go_simp
        refine wpAny_ready (rs := [6]) (by kernel_rfl) (by simp) (AllReady.cons rfl (fun K hK => ?_) AllReady.nil)
        go_simp
        refine hK _ _ ?_
        clear hK K
        have RD20 := Lib.hid (RD17.out.alloc (.cells #[.int .i64 0, .int .i64 0, .int .i64 0, .int .i64 0, .int .i64 1, .int .i64 2, .int .i64 3] 3))
        have BE20 := Lib.hid (BE17.out.alloc BE17.out.size (.cells #[.int .i64 0, .int .i64 0, .int .i64 0, .int .i64 0, .int .i64 1, .int .i64 2, .int .i64 3] 3))
        have LI20 := Lib.hid (LI17.out.alloc (.cells #[.int .i64 0, .int .i64 0, .int .i64 0, .int .i64 0, .int .i64 1, .int .i64 2, .int .i64 3] 3))
        have hR20 : w.heap.size < (u17.alloc (.cells #[.int .i64 0, .int .i64 0, .int .i64 0, .int .i64 0, .int .i64 1, .int .i64 2, .int .i64 3] 3)).heap.size := RD20.out.lt
        have C720 := Lib.hid (sevG_new u17 hR17)
        have C420 := Lib.hid (C417.out.alloc (.cells #[.int .i64 0, .int .i64 0, .int .i64 0, .int .i64 0, .int .i64 1, .int .i64 2, .int .i64 3] 3))
        generalize u17.alloc (.cells #[.int .i64 0, .int .i64 0, .int .i64 0, .int .i64 0, .int .i64 1, .int .i64 2, .int .i64 3] 3) = u20 at RD20 BE20 LI20 hR20 C720 C420 ⊢
        refine wpAny_take (i := 9) (v := ?v21) rfl (by kernel_rfl) (by kernel_rfl) (by kernel_rfl) (fun _ _ _ h => h) (Or.inl ⟨by kernel_rfl, ?h21⟩) ?_
        case h21 => intro w; go_simp; try with_reducible rfl
        go_simp
        refine wpAny_ready (rs := [10]) (by kernel_rfl) (by simp) (AllReady.cons rfl (fun K hK => ?_) AllReady.nil)
        go_simp
        obtain ⟨i6, hi6, hc6⟩ := C720.out.2.2 k6 hk6
        have hi6' : (i6 : Int) < 4 := by omega
        go_simp
        refine hK _ _ ?_
        clear hK K hc6
        refine wpAny_take (i := 11) (v := ?v23) rfl (by kernel_rfl) (by kernel_rfl) (by kernel_rfl) (fun _ _ _ h => h) (Or.inl ⟨by kernel_rfl, ?h23⟩) ?_
        case h23 => intro w; go_simp; try with_reducible rfl
        go_simp
        refine wpAny_ready (rs := [12]) (by kernel_rfl) (by simp) (AllReady.cons rfl (fun K hK => ?_) AllReady.nil)
        go_simp
        obtain ⟨y, hyy, hy⟩ := C420.out.2.2 i6 hi6
        have HY := Lib.hid hyy
        clear hyy
        go_simp
        refine hK _ _ ?_
        clear hK K hy
        refine wpAny_take (i := 15) (v := ?v25) rfl (by kernel_rfl) (by kernel_rfl) (by kernel_rfl) (fun _ _ _ h => h) (Or.inl ⟨by kernel_rfl, ?h25⟩) ?_
        case h25 => intro w; go_simp; try with_reducible rfl
        go_simp
        refine wpAny_done (by kernel_rfl) ?_ _
        go_wp2
        go_ret3
        exact ⟨gn, xs, ad, cap, y, rfl, HGn.out, HY.out, drawnL_grow LI20.out (by omega) SX.out, BE20.out⟩
    · skip
      go_simp
      refine hK _ _ ?_
      clear hK K
      have RD26 := Lib.hid (RD5.out.alloc (.cells #[.int .i64 0, .int .i64 0, .int .i64 0, .int .i64 0, .int .i64 1, .int .i64 2, .int .i64 3] 3))
      have BE26 := Lib.hid (BE5.out.alloc BE5.out.size (.cells #[.int .i64 0, .int .i64 0, .int .i64 0, .int .i64 0, .int .i64 1, .int .i64 2, .int .i64 3] 3))
      have LI26 := Lib.hid (LI5.out.alloc (.cells #[.int .i64 0, .int .i64 0, .int .i64 0, .int .i64 0, .int .i64 1, .int .i64 2, .int .i64 3] 3))
      have hR26 : w.heap.size < (u5.alloc (.cells #[.int .i64 0, .int .i64 0, .int .i64 0, .int .i64 0, .int .i64 1, .int .i64 2, .int .i64 3] 3)).heap.size := RD26.out.lt
      have C726 := Lib.hid (sevG_new u5 hR5)
      generalize u5.alloc (.cells #[.int .i64 0, .int .i64 0, .int .i64 0, .int .i64 0, .int .i64 1, .int .i64 2, .int .i64 3] 3) = u26 at RD26 BE26 LI26 hR26 C726 ⊢
      refine wpAny_ready (rs := [5, 8]) (by kernel_rfl) (by simp) (AllReady.cons rfl (fun K hK => ?_) (AllReady.cons rfl (fun K hK => ?_) AllReady.nil))
      · skip
        go_simp
        refine hK _ _ ?_
        clear hK K
        have RD27 := Lib.hid (RD26.out.alloc (.cells #[.int .i64 (1 + v1), .int .i64 0, .int .i64 1001, .int .i64 1000] 3))
        have BE27 := Lib.hid (BE26.out.alloc BE26.out.size (.cells #[.int .i64 (1 + v1), .int .i64 0, .int .i64 1001, .int .i64 1000] 3))
        have LI27 := Lib.hid (LI26.out.alloc (.cells #[.int .i64 (1 + v1), .int .i64 0, .int .i64 1001, .int .i64 1000] 3))
        have hR27 : w.heap.size < (u26.alloc (.cells #[.int .i64 (1 + v1), .int .i64 0, .int .i64 1001, .int .i64 1000] 3)).heap.size := RD27.out.lt
        have C427 := Lib.hid (fouG_new u26 (1 + v1) hR26 (by omega))
        have C727 := Lib.hid (C726.out.alloc (.cells #[.int .i64 (1 + v1), .int .i64 0, .int .i64 1001, .int .i64 1000] 3))
        generalize u26.alloc (.cells #[.int .i64 (1 + v1), .int .i64 0, .int .i64 1001, .int .i64 1000] 3) = u27 at RD27 BE27 LI27 hR27 C427 C727 ⊢
        refine wpAny_ready (rs := [8]) (by kernel_rfl) (by simp) (AllReady.cons rfl (fun K hK => ?_) AllReady.nil)
        go_simp
        refine (pick_any w.heap.size (p5 + 1) 7 u27 RD27.out (by omega) (by omega) (by omega)).mono ?_
        rintro e u28 ⟨x28, ⟨hx28, hy28⟩, rfl, r28, g28⟩
        have RD28 := Lib.hid r28
        have BE28 := Lib.hid (below_R BE27.out g28)
        have LI28 := Lib.hid (LI27.out.grownR g28 hRb)
        have hR28 : w.heap.size < u28.heap.size := r28.lt
        have C728 := Lib.hid (C727.out.grown g28)
        have C428 := Lib.hid (C427.out.grown g28)
        clear r28 g28
        go_simp
        refine hK _ _ ?_
        clear hK K
        obtain ⟨k6, rfl⟩ := Int.eq_ofNat_of_zero_le hx28
        have hk6 : k6 < 7 := by omega
        have hk6' : (k6 : Int) < 7 := by omega
        refine wpAny_take (i := 13) (v := ?v29) rfl (by kernel_rfl) (by kernel_rfl) (by kernel_rfl) (fun _ _ _ h => h) (Or.inl ⟨by kernel_rfl, ?h29⟩) ?_
        case h29 => intro w; go_simp; try with_reducible rfl
        go_simp
        refine wpAny_take (i := 14) (v := ?v30) rfl (by kernel_rfl) (by kernel_rfl) (by kernel_rfl) (fun _ _ _ h => h) (Or.inl ⟨by kernel_rfl, ?h30⟩) ?_
        case h30 => intro w; go_simp; try with_reducible rfl
        go_simp
        refine wpAny_take (i := 9) (v := ?v31) rfl (by kernel_rfl) (by kernel_rfl) (by kernel_rfl) (fun _ _ _ h => h) (Or.inl ⟨by kernel_rfl, ?h31⟩) ?_
        case h31 => intro w; go_simp; try with_reducible rfl
        go_simp
        refine wpAny_ready (rs := [10]) (by kernel_rfl) (by simp) (AllReady.cons rfl (fun K hK => ?_) AllReady.nil)
        go_simp
        obtain ⟨i6, hi6, hc6⟩ := C728.out.2.2 k6 hk6
        have hi6' : (i6 : Int) < 4 := by omega
        go_simp
        refine hK _ _ ?_
        clear hK K hc6
        refine wpAny_take (i := 11) (v := ?v33) rfl (by kernel_rfl) (by kernel_rfl) (by kernel_rfl) (fun _ _ _ h => h) (Or.inl ⟨by kernel_rfl, ?h33⟩) ?_
        case h33 => intro w; go_simp; try with_reducible rfl
        go_simp
        refine wpAny_ready (rs := [12]) (by kernel_rfl) (by simp) (AllReady.cons rfl (fun K hK => ?_) AllReady.nil)
        go_simp
        obtain ⟨y, hyy, hy⟩ := C428.out.2.2 i6 hi6
        have HY := Lib.hid hyy
        clear hyy
        go_simp
        refine hK _ _ ?_
        clear hK K hy
        refine wpAny_take (i := 15) (v := ?v35) rfl (by kernel_rfl) (by kernel_rfl) (by kernel_rfl) (fun _ _ _ h => h) (Or.inl ⟨by kernel_rfl, ?h35⟩) ?_
        case h35 => intro w; go_simp; try with_reducible rfl
        go_simp
        refine wpAny_done (by kernel_rfl) ?_ _
        go_wp2
        go_ret3
        exact ⟨gn, xs, ad, cap, y, rfl, HGn.out, HY.out, drawnL_grow LI28.out (by omega) SX.out, BE28.out⟩
      · skip
        go_simp
        refine (pick_any w.heap.size (p5 + 1) 7 u26 RD26.out (by omega) (by omega) (by omega)).mono ?_
        rintro e u36 ⟨x36, ⟨hx36, hy36⟩, rfl, r36, g36⟩
        have RD36 := Lib.hid r36
        have BE36 := Lib.hid (below_R BE26.out g36)
        have LI36 := Lib.hid (LI26.out.grownR g36 hRb)
        have hR36 : w.heap.size < u36.heap.size := r36.lt
        have C736 := Lib.hid (C726.out.grown g36)
        clear r36 g36
        go_simp
        refine hK _ _ ?_
        clear hK K
        obtain ⟨k6, rfl⟩ := Int.eq_ofNat_of_zero_le hx36
        have hk6 : k6 < 7 := by omega
        have hk6' : (k6 : Int) < 7 := by omega
        refine wpAny_take (i := 13) (v := ?v37) rfl (by kernel_rfl) (by kernel_rfl) (by kernel_rfl) (fun _ _ _ h => h) (Or.inl ⟨by kernel_rfl, ?h37⟩) ?_
        case h37 => intro w; go_simp; try with_reducible rfl
        go_simp
        refine wpAny_take (i := 14) (v := ?v38) rfl (by kernel_rfl) (by kernel_rfl) (by kernel_rfl) (fun _ _ _ h => h) (Or.inl ⟨by kernel_rfl, ?h38⟩) ?_
        case h38 => intro w; go_simp; try with_reducible rfl
        go_simp
        refine wpAny_take (i := 9) (v := ?v39) rfl (by kernel_rfl) (by kernel_rfl) (by kernel_rfl) (fun _ _ _ h => h) (Or.inl ⟨by kernel_rfl, ?h39⟩) ?_
        case h39 => intro w; go_simp; try with_reducible rfl
        go_simp
        refine wpAny_ready (rs := [5, 10]) (by kernel_rfl) (by simp) (AllReady.cons rfl (fun K hK => ?_) (AllReady.cons rfl (fun K hK => ?_) AllReady.nil))
        · skip
          go_simp
          refine hK _ _ ?_
          clear hK K
          have RD40 := Lib.hid (RD36.out.alloc (.cells #[.int .i64 (1 + v1), .int .i64 0, .int .i64 1001, .int .i64 1000] 3))
          have BE40 := Lib.hid (BE36.out.alloc BE36.out.size (.cells #[.int .i64 (1 + v1), .int .i64 0, .int .i64 1001, .int .i64 1000] 3))
          have LI40 := Lib.hid (LI36.out.alloc (.cells #[.int .i64 (1 + v1), .int .i64 0, .int .i64 1001, .int .i64 1000] 3))
          have hR40 : w.heap.size < (u36.alloc (.cells #[.int .i64 (1 + v1), .int .i64 0, .int .i64 1001, .int .i64 1000] 3)).heap.size := RD40.out.lt
          have C440 := Lib.hid (fouG_new u36 (1 + v1) hR36 (by omega))
          have C740 := Lib.hid (C736.out.alloc (.cells #[.int .i64 (1 + v1), .int .i64 0, .int .i64 1001, .int .i64 1000] 3))
          generalize u36.alloc (.cells #[.int .i64 (1 + v1), .int .i64 0, .int .i64 1001, .int .i64 1000] 3) = u40 at RD40 BE40 LI40 hR40 C440 C740 ⊢
          refine wpAny_ready (rs := [10]) (by kernel_rfl) (by simp) (AllReady.cons rfl (fun K hK => ?_) AllReady.nil)
          go_simp
          obtain ⟨i6, hi6, hc6⟩ := C740.out.2.2 k6 hk6
          have hi6' : (i6 : Int) < 4 := by omega
          go_simp
          refine hK _ _ ?_
          clear hK K hc6
          refine wpAny_take (i := 11) (v := ?v42) rfl (by kernel_rfl) (by kernel_rfl) (by kernel_rfl) (fun _ _ _ h => h) (Or.inl ⟨by kernel_rfl, ?h42⟩) ?_
          case h42 => intro w; go_simp; try with_reducible rfl
          go_simp
          refine wpAny_ready (rs := [12]) (by kernel_rfl) (by simp) (AllReady.cons rfl (fun K hK => ?_) AllReady.nil)
          go_simp
          obtain ⟨y, hyy, hy⟩ := C440.out.2.2 i6 hi6
          have HY := Lib.hid hyy
          clear hyy
          go_simp
          refine hK _ _ ?_
          clear hK K hy
          refine wpAny_take (i := 15) (v := ?v44) rfl (by kernel_rfl) (by kernel_rfl) (by kernel_rfl) (fun _ _ _ h => h) (Or.inl ⟨by kernel_rfl, ?h44⟩) ?_
          case h44 => intro w; go_simp; try with_reducible rfl
          go_simp
          refine wpAny_done (by kernel_rfl) ?_ _
          go_wp2
          go_ret3
          exact ⟨gn, xs, ad, cap, y, rfl, HGn.out, HY.out, drawnL_grow LI40.out (by omega) SX.out, BE40.out⟩
        · skip
          go_simp
          obtain ⟨i6, hi6, hc6⟩ := C736.out.2.2 k6 hk6
          have hi6' : (i6 : Int) < 4 := by omega
          go_simp
          refine hK _ _ ?_
          clear hK K hc6
          refine wpAny_ready (rs := [5]) (by kernel_rfl) (by simp) (AllReady.cons rfl (fun K hK => ?_) AllReady.nil)
          go_simp
          refine hK _ _ ?_
          clear hK K
          have RD46 := Lib.hid (RD36.out.alloc (.cells #[.int .i64 (1 + v1), .int .i64 0, .int .i64 1001, .int .i64 1000] 3))
          have BE46 := Lib.hid (BE36.out.alloc BE36.out.size (.cells #[.int .i64 (1 + v1), .int .i64 0, .int .i64 1001, .int .i64 1000] 3))
          have LI46 := Lib.hid (LI36.out.alloc (.cells #[.int .i64 (1 + v1), .int .i64 0, .int .i64 1001, .int .i64 1000] 3))
          have hR46 : w.heap.size < (u36.alloc (.cells #[.int .i64 (1 + v1), .int .i64 0, .int .i64 1001, .int .i64 1000] 3)).heap.size := RD46.out.lt
          have C446 := Lib.hid (fouG_new u36 (1 + v1) hR36 (by omega))
          have C746 := Lib.hid (C736.out.alloc (.cells #[.int .i64 (1 + v1), .int .i64 0, .int .i64 1001, .int .i64 1000] 3))
          generalize u36.alloc (.cells #[.int .i64 (1 + v1), .int .i64 0, .int .i64 1001, .int .i64 1000] 3) = u46 at RD46 BE46 LI46 hR46 C446 C746 ⊢
          refine wpAny_take (i := 11) (v := ?v47) rfl (by kernel_rfl) (by kernel_rfl) (by kernel_rfl) (fun _ _ _ h => h) (Or.inl ⟨by kernel_rfl, ?h47⟩) ?_
          case h47 => intro w; go_simp; try with_reducible rfl
          go_simp
          refine wpAny_ready (rs := [12]) (by kernel_rfl) (by simp) (AllReady.cons rfl (fun K hK => ?_) AllReady.nil)
          go_simp
          obtain ⟨y, hyy, hy⟩ := C446.out.2.2 i6 hi6
          have HY := Lib.hid hyy
          clear hyy
          go_simp
          refine hK _ _ ?_
          clear hK K hy
          refine wpAny_take (i := 15) (v := ?v49) rfl (by kernel_rfl) (by kernel_rfl) (by kernel_rfl) (fun _ _ _ h => h) (Or.inl ⟨by kernel_rfl, ?h49⟩) ?_
          case h49 => intro w; go_simp; try with_reducible rfl
          go_simp
          refine wpAny_done (by kernel_rfl) ?_ _
          go_wp2
          go_ret3
          exact ⟨gn, xs, ad, cap, y, rfl, HGn.out, HY.out, drawnL_grow LI46.out (by omega) SX.out, BE46.out⟩
    · skip
      go_simp
      refine (pick_any w.heap.size (p5 + 1) 7 u5 RD5.out (by omega) (by omega) (by omega)).mono ?_
      rintro e u50 ⟨x50, ⟨hx50, hy50⟩, rfl, r50, g50⟩
      have RD50 := Lib.hid r50
      have BE50 := Lib.hid (below_R BE5.out g50)
      have LI50 := Lib.hid (LI5.out.grownR g50 hRb)
      have hR50 : w.heap.size < u50.heap.size := r50.lt
      clear r50 g50
      go_simp
      refine hK _ _ ?_
      clear hK K
      obtain ⟨k6, rfl⟩ := Int.eq_ofNat_of_zero_le hx50
      have hk6 : k6 < 7 := by omega
      have hk6' : (k6 : Int) < 7 := by omega
      refine wpAny_take (i := 13) (v := ?v51) rfl (by kernel_rfl) (by kernel_rfl) (by kernel_rfl) (fun _ _ _ h => h) (Or.inl ⟨by kernel_rfl, ?h51⟩) ?_
      case h51 => intro w; go_simp; try with_reducible rfl
      go_simp
      refine wpAny_take (i := 14) (v := ?v52) rfl (by kernel_rfl) (by kernel_rfl) (by kernel_rfl) (fun _ _ _ h => h) (Or.inl ⟨by kernel_rfl, ?h52⟩) ?_
      case h52 => intro w; go_simp; try with_reducible rfl
      go_simp
      refine wpAny_ready (rs := [5, 6]) (by kernel_rfl) (by simp) (AllReady.cons rfl (fun K hK => ?_) (AllReady.cons rfl (fun K hK => ?_) AllReady.nil))
      · skip
        go_simp
        refine hK _ _ ?_
        clear hK K
        have RD53 := Lib.hid (RD50.out.alloc (.cells #[.int .i64 (1 + v1), .int .i64 0, .int .i64 1001, .int .i64 1000] 3))
        have BE53 := Lib.hid (BE50.out.alloc BE50.out.size (.cells #[.int .i64 (1 + v1), .int .i64 0, .int .i64 1001, .int .i64 1000] 3))
        have LI53 := Lib.hid (LI50.out.alloc (.cells #[.int .i64 (1 + v1), .int .i64 0, .int .i64 1001, .int .i64 1000] 3))
        have hR53 : w.heap.size < (u50.alloc (.cells #[.int .i64 (1 + v1), .int .i64 0, .int .i64 1001, .int .i64 1000] 3)).heap.size := RD53.out.lt
        have C453 := Lib.hid (fouG_new u50 (1 + v1) hR50 (by omega))
        generalize u50.alloc (.cells #[.int .i64 (1 + v1), .int .i64 0, .int .i64 1001, .int .i64 1000] 3) = u53 at RD53 BE53 LI53 hR53 C453 ⊢
        refine wpAny_ready (rs := [6]) (by kernel_rfl) (by simp) (AllReady.cons rfl (fun K hK => ?_) AllReady.nil)
        go_simp
        refine hK _ _ ?_
        clear hK K
        have RD54 := Lib.hid (RD53.out.alloc (.cells #[.int .i64 0, .int .i64 0, .int .i64 0, .int .i64 0, .int .i64 1, .int .i64 2, .int .i64 3] 3))
        have BE54 := Lib.hid (BE53.out.alloc BE53.out.size (.cells #[.int .i64 0, .int .i64 0, .int .i64 0, .int .i64 0, .int .i64 1, .int .i64 2, .int .i64 3] 3))
        have LI54 := Lib.hid (LI53.out.alloc (.cells #[.int .i64 0, .int .i64 0, .int .i64 0, .int .i64 0, .int .i64 1, .int .i64 2, .int .i64 3] 3))
        have hR54 : w.heap.size < (u53.alloc (.cells #[.int .i64 0, .int .i64 0, .int .i64 0, .int .i64 0, .int .i64 1, .int .i64 2, .int .i64 3] 3)).heap.size := RD54.out.lt
        have C754 := Lib.hid (sevG_new u53 hR53)
        have C454 := Lib.hid (C453.out.alloc (.cells #[.int .i64 0, .int .i64 0, .int .i64 0, .int .i64 0, .int .i64 1, .int .i64 2, .int .i64 3] 3))
        generalize u53.alloc (.cells #[.int .i64 0, .int .i64 0, .int .i64 0, .int .i64 0, .int .i64 1, .int .i64 2, .int .i64 3] 3) = u54 at RD54 BE54 LI54 hR54 C754 C454 ⊢
        refine wpAny_take (i := 9) (v := ?v55) rfl (by kernel_rfl) (by kernel_rfl) (by kernel_rfl) (fun _ _ _ h => h) (Or.inl ⟨by kernel_rfl, ?h55⟩) ?_
        case h55 => intro w; go_simp; try with_reducible rfl
        go_simp
        refine wpAny_ready (rs := [10]) (by kernel_rfl) (by simp) (AllReady.cons rfl (fun K hK => ?_) AllReady.nil)
        go_simp
        obtain ⟨i6, hi6, hc6⟩ := C754.out.2.2 k6 hk6
        have hi6' : (i6 : Int) < 4 := by omega
        go_simp
        refine hK _ _ ?_
        clear hK K hc6
        refine wpAny_take (i := 11) (v := ?v57) rfl (by kernel_rfl) (by kernel_rfl) (by kernel_rfl) (fun _ _ _ h => h) (Or.inl ⟨by kernel_rfl, ?h57⟩) ?_
        case h57 => intro w; go_simp; try with_reducible rfl
        go_simp
        refine wpAny_ready (rs := [12]) (by kernel_rfl) (by simp) (AllReady.cons rfl (fun K hK => ?_) AllReady.nil)
        go_simp
        obtain ⟨y, hyy, hy⟩ := C454.out.2.2 i6 hi6
        have HY := Lib.hid hyy
        clear hyy
        go_simp
        refine hK _ _ ?_
        clear hK K hy
        refine wpAny_take (i := 15) (v := ?v59) rfl (by kernel_rfl) (by kernel_rfl) (by kernel_rfl) (fun _ _ _ h => h) (Or.inl ⟨by kernel_rfl, ?h59⟩) ?_
        case h59 => intro w; go_simp; try with_reducible rfl
        go_simp
        refine wpAny_done (by kernel_rfl) ?_ _
        go_wp2
        go_ret3
        exact ⟨gn, xs, ad, cap, y, rfl, HGn.out, HY.out, drawnL_grow LI54.out (by omega) SX.out, BE54.out⟩
      · skip
        go_simp
        refine hK _ _ ?_
        clear hK K
        have RD60 := Lib.hid (RD50.out.alloc (.cells #[.int .i64 0, .int .i64 0, .int .i64 0, .int .i64 0, .int .i64 1, .int .i64 2, .int .i64 3] 3))
        have BE60 := Lib.hid (BE50.out.alloc BE50.out.size (.cells #[.int .i64 0, .int .i64 0, .int .i64 0, .int .i64 0, .int .i64 1, .int .i64 2, .int .i64 3] 3))
        have LI60 := Lib.hid (LI50.out.alloc (.cells #[.int .i64 0, .int .i64 0, .int .i64 0, .int .i64 0, .int .i64 1, .int .i64 2, .int .i64 3] 3))
        have hR60 : w.heap.size < (u50.alloc (.cells #[.int .i64 0, .int .i64 0, .int .i64 0, .int .i64 0, .int .i64 1, .int .i64 2, .int .i64 3] 3)).heap.size := RD60.out.lt
        have C760 := Lib.hid (sevG_new u50 hR50)
        generalize u50.alloc (.cells #[.int .i64 0, .int .i64 0, .int .i64 0, .int .i64 0, .int .i64 1, .int .i64 2, .int .i64 3] 3) = u60 at RD60 BE60 LI60 hR60 C760 ⊢
        refine wpAny_take (i := 9) (v := ?v61) rfl (by kernel_rfl) (by kernel_rfl) (by kernel_rfl) (fun _ _ _ h => h) (Or.inl ⟨by kernel_rfl, ?h61⟩) ?_
        case h61 => intro w; go_simp; try with_reducible rfl
        go_simp
        refine wpAny_ready (rs := [5, 10]) (by kernel_rfl) (by simp) (AllReady.cons rfl (fun K hK => ?_) (AllReady.cons rfl (fun K hK => ?_) AllReady.nil))
        · skip
          go_simp
          refine hK _ _ ?_
          clear hK K
          have RD62 := Lib.hid (RD60.out.alloc (.cells #[.int .i64 (1 + v1), .int .i64 0, .int .i64 1001, .int .i64 1000] 3))
          have BE62 := Lib.hid (BE60.out.alloc BE60.out.size (.cells #[.int .i64 (1 + v1), .int .i64 0, .int .i64 1001, .int .i64 1000] 3))
          have LI62 := Lib.hid (LI60.out.alloc (.cells #[.int .i64 (1 + v1), .int .i64 0, .int .i64 1001, .int .i64 1000] 3))
          have hR62 : w.heap.size < (u60.alloc (.cells #[.int .i64 (1 + v1), .int .i64 0, .int .i64 1001, .int .i64 1000] 3)).heap.size := RD62.out.lt
          have C462 := Lib.hid (fouG_new u60 (1 + v1) hR60 (by omega))
          have C762 := Lib.hid (C760.out.alloc (.cells #[.int .i64 (1 + v1), .int .i64 0, .int .i64 1001, .int .i64 1000] 3))
          generalize u60.alloc (.cells #[.int .i64 (1 + v1), .int .i64 0, .int .i64 1001, .int .i64 1000] 3) = u62 at RD62 BE62 LI62 hR62 C462 C762 ⊢
          refine wpAny_ready (rs := [10]) (by kernel_rfl) (by simp) (AllReady.cons rfl (fun K hK => ?_) AllReady.nil)
          go_simp
          obtain ⟨i6, hi6, hc6⟩ := C762.out.2.2 k6 hk6
          have hi6' : (i6 : Int) < 4 := by omega
          go_simp
          refine hK _ _ ?_
          clear hK K hc6
          refine wpAny_take (i := 11) (v := ?v64) rfl (by kernel_rfl) (by kernel_rfl) (by kernel_rfl) (fun _ _ _ h => h) (Or.inl ⟨by kernel_rfl, ?h64⟩) ?_
          case h64 => intro w; go_simp; try with_reducible rfl
          go_simp
          refine wpAny_ready (rs := [12]) (by kernel_rfl) (by simp) (AllReady.cons rfl (fun K hK => ?_) AllReady.nil)
          go_simp
          obtain ⟨y, hyy, hy⟩ := C462.out.2.2 i6 hi6
          have HY := Lib.hid hyy
          clear hyy
          go_simp
          refine hK _ _ ?_
          clear hK K hy
          refine wpAny_take (i := 15) (v := ?v66) rfl (by kernel_rfl) (by kernel_rfl) (by kernel_rfl) (fun _ _ _ h => h) (Or.inl ⟨by kernel_rfl, ?h66⟩) ?_
          case h66 => intro w; go_simp; try with_reducible rfl
          go_simp
          refine wpAny_done (by kernel_rfl) ?_ _
          go_wp2
          go_ret3
          exact ⟨gn, xs, ad, cap, y, rfl, HGn.out, HY.out, drawnL_grow LI62.out (by omega) SX.out, BE62.out⟩
        · skip
          go_simp
          obtain ⟨i6, hi6, hc6⟩ := C760.out.2.2 k6 hk6
          have hi6' : (i6 : Int) < 4 := by omega
          go_simp
          refine hK _ _ ?_
          clear hK K hc6
          refine wpAny_ready (rs := [5]) (by kernel_rfl) (by simp) (AllReady.cons rfl (fun K hK => ?_) AllReady.nil)
          go_simp
          refine hK _ _ ?_
          clear hK K
          have RD68 := Lib.hid (RD60.out.alloc (.cells #[.int .i64 (1 + v1), .int .i64 0, .int .i64 1001, .int .i64 1000] 3))
          have BE68 := Lib.hid (BE60.out.alloc BE60.out.size (.cells #[.int .i64 (1 + v1), .int .i64 0, .int .i64 1001, .int .i64 1000] 3))
          have LI68 := Lib.hid (LI60.out.alloc (.cells #[.int .i64 (1 + v1), .int .i64 0, .int .i64 1001, .int .i64 1000] 3))
          have hR68 : w.heap.size < (u60.alloc (.cells #[.int .i64 (1 + v1), .int .i64 0, .int .i64 1001, .int .i64 1000] 3)).heap.size := RD68.out.lt
          have C468 := Lib.hid (fouG_new u60 (1 + v1) hR60 (by omega))
          have C768 := Lib.hid (C760.out.alloc (.cells #[.int .i64 (1 + v1), .int .i64 0, .int .i64 1001, .int .i64 1000] 3))
          generalize u60.alloc (.cells #[.int .i64 (1 + v1), .int .i64 0, .int .i64 1001, .int .i64 1000] 3) = u68 at RD68 BE68 LI68 hR68 C468 C768 ⊢
          refine wpAny_take (i := 11) (v := ?v69) rfl (by kernel_rfl) (by kernel_rfl) (by kernel_rfl) (fun _ _ _ h => h) (Or.inl ⟨by kernel_rfl, ?h69⟩) ?_
          case h69 => intro w; go_simp; try with_reducible rfl
          go_simp
          refine wpAny_ready (rs := [12]) (by kernel_rfl) (by simp) (AllReady.cons rfl (fun K hK => ?_) AllReady.nil)
          go_simp
          obtain ⟨y, hyy, hy⟩ := C468.out.2.2 i6 hi6
          have HY := Lib.hid hyy
          clear hyy
          go_simp
          refine hK _ _ ?_
          clear hK K hy
          refine wpAny_take (i := 15) (v := ?v71) rfl (by kernel_rfl) (by kernel_rfl) (by kernel_rfl) (fun _ _ _ h => h) (Or.inl ⟨by kernel_rfl, ?h71⟩) ?_
          case h71 => intro w; go_simp; try with_reducible rfl
          go_simp
          refine wpAny_done (by kernel_rfl) ?_ _
          go_wp2
          go_ret3
          exact ⟨gn, xs, ad, cap, y, rfl, HGn.out, HY.out, drawnL_grow LI68.out (by omega) SX.out, BE68.out⟩
  · skip
    go_simp
    refine hK _ _ ?_
    clear hK K
    have RD72 := Lib.hid (RD0.out.alloc (.cells #[.int .i64 0, .int .i64 0, .int .i64 0, .int .i64 0, .int .i64 1, .int .i64 2, .int .i64 3] 3))
    have BE72 := Lib.hid (BE0.out.alloc BE0.out.size (.cells #[.int .i64 0, .int .i64 0, .int .i64 0, .int .i64 0, .int .i64 1, .int .i64 2, .int .i64 3] 3))
    have LI72 := Lib.hid (LI0.out.alloc (.cells #[.int .i64 0, .int .i64 0, .int .i64 0, .int .i64 0, .int .i64 1, .int .i64 2, .int .i64 3] 3))
    have hR72 : w.heap.size < (u0.alloc (.cells #[.int .i64 0, .int .i64 0, .int .i64 0, .int .i64 0, .int .i64 1, .int .i64 2, .int .i64 3] 3)).heap.size := RD72.out.lt
    have C772 := Lib.hid (sevG_new u0 hR0)
    generalize u0.alloc (.cells #[.int .i64 0, .int .i64 0, .int .i64 0, .int .i64 0, .int .i64 1, .int .i64 2, .int .i64 3] 3) = u72 at RD72 BE72 LI72 hR72 C772 ⊢
    refine wpAny_ready (rs := [3]) (by kernel_rfl) (by simp) (AllReady.cons rfl (fun K hK => ?_) AllReady.nil)
    go_simp
    refine (pick_any w.heap.size (p5) 200 u72 RD72.out (by omega) (by omega) (by omega)).mono ?_
    rintro e u73 ⟨v1, ⟨hx73, hy73⟩, rfl, r73, g73⟩
    have RD73 := Lib.hid r73
    have BE73 := Lib.hid (below_R BE72.out g73)
    have LI73 := Lib.hid (LI72.out.grownR g73 hRb)
    have hR73 : w.heap.size < u73.heap.size := r73.lt
    have C773 := Lib.hid (C772.out.grown g73)
    clear r73 g73
    have q1 : IntKind.i64.wrap (1 + v1) = 1 + v1 := by rw [IntKind.wrap_i64]; omega
    have q1' : wrap64 (1 + v1) = 1 + v1 := by unfold wrap64; omega
    go_simp
    refine hK _ _ ?_
    clear hK K
    refine wpAny_take (i := 4) (v := ?v74) rfl (by kernel_rfl) (by kernel_rfl) (by kernel_rfl) (fun _ _ _ h => h) (Or.inl ⟨by kernel_rfl, ?h74⟩) ?_
    case h74 => intro w; go_simp; try with_reducible rfl
    go_simp
    refine wpAny_ready (rs := [5, 8]) (by kernel_rfl) (by simp) (AllReady.cons rfl (fun K hK => ?_) (AllReady.cons rfl (fun K hK => ?_) AllReady.nil))
    · skip
      go_simp
      refine hK _ _ ?_
      clear hK K
      have RD75 := Lib.hid (RD73.out.alloc (.cells #[.int .i64 (1 + v1), .int .i64 0, .int .i64 1001, .int .i64 1000] 3))
      have BE75 := Lib.hid (BE73.out.alloc BE73.out.size (.cells #[.int .i64 (1 + v1), .int .i64 0, .int .i64 1001, .int .i64 1000] 3))
      have LI75 := Lib.hid (LI73.out.alloc (.cells #[.int .i64 (1 + v1), .int .i64 0, .int .i64 1001, .int .i64 1000] 3))
      have hR75 : w.heap.size < (u73.alloc (.cells #[.int .i64 (1 + v1), .int .i64 0, .int .i64 1001, .int .i64 1000] 3)).heap.size := RD75.out.lt
      have C475 := Lib.hid (fouG_new u73 (1 + v1) hR73 (by omega))
      have C775 := Lib.hid (C773.out.alloc (.cells #[.int .i64 (1 + v1), .int .i64 0, .int .i64 1001, .int .i64 1000] 3))
      generalize u73.alloc (.cells #[.int .i64 (1 + v1), .int .i64 0, .int .i64 1001, .int .i64 1000] 3) = u75 at RD75 BE75 LI75 hR75 C475 C775 ⊢
      refine wpAny_ready (rs := [8]) (by kernel_rfl) (by simp) (AllReady.cons rfl (fun K hK => ?_) AllReady.nil)
      go_simp
      refine (pick_any w.heap.size (p5 + 1) 7 u75 RD75.out (by omega) (by omega) (by omega)).mono ?_
      rintro e u76 ⟨x76, ⟨hx76, hy76⟩, rfl, r76, g76⟩
      have RD76 := Lib.hid r76
      have BE76 := Lib.hid (below_R BE75.out g76)
      have LI76 := Lib.hid (LI75.out.grownR g76 hRb)
      have hR76 : w.heap.size < u76.heap.size := r76.lt
      have C776 := Lib.hid (C775.out.grown g76)
      have C476 := Lib.hid (C475.out.grown g76)
      clear r76 g76
      go_simp
      refine hK _ _ ?_
      clear hK K
      obtain ⟨k6, rfl⟩ := Int.eq_ofNat_of_zero_le hx76
      have hk6 : k6 < 7 := by omega
      have hk6' : (k6 : Int) < 7 := by omega
      refine wpAny_take (i := 13) (v := ?v77) rfl (by kernel_rfl) (by kernel_rfl) (by kernel_rfl) (fun _ _ _ h => h) (Or.inl ⟨by kernel_rfl, ?h77⟩) ?_
      case h77 => intro w; go_simp; try with_reducible rfl
      go_simp
      refine wpAny_take (i := 14) (v := ?v78) rfl (by kernel_rfl) (by kernel_rfl) (by kernel_rfl) (fun _ _ _ h => h) (Or.inl ⟨by kernel_rfl, ?h78⟩) ?_
      case h78 => intro w; go_simp; try with_reducible rfl
      go_simp
      refine wpAny_take (i := 9) (v := ?v79) rfl (by kernel_rfl) (by kernel_rfl) (by kernel_rfl) (fun _ _ _ h => h) (Or.inl ⟨by kernel_rfl, ?h79⟩) ?_
      case h79 => intro w; go_simp; try with_reducible rfl
      go_simp
      refine wpAny_ready (rs := [10]) (by kernel_rfl) (by simp) (AllReady.cons rfl (fun K hK => ?_) AllReady.nil)
      go_simp
      obtain ⟨i6, hi6, hc6⟩ := C776.out.2.2 k6 hk6
      have hi6' : (i6 : Int) < 4 := by omega
      go_simp
      refine hK _ _ ?_
      clear hK K hc6
      refine wpAny_take (i := 11) (v := ?v81) rfl (by kernel_rfl) (by kernel_rfl) (by kernel_rfl) (fun _ _ _ h => h) (Or.inl ⟨by kernel_rfl, ?h81⟩) ?_
      case h81 => intro w; go_simp; try with_reducible rfl
      go_simp
      refine wpAny_ready (rs := [12]) (by kernel_rfl) (by simp) (AllReady.cons rfl (fun K hK => ?_) AllReady.nil)
      go_simp
      obtain ⟨y, hyy, hy⟩ := C476.out.2.2 i6 hi6
      have HY := Lib.hid hyy
      clear hyy
      go_simp
      refine hK _ _ ?_
      clear hK K hy
      refine wpAny_take (i := 15) (v := ?v83) rfl (by kernel_rfl) (by kernel_rfl) (by kernel_rfl) (fun _ _ _ h => h) (Or.inl ⟨by kernel_rfl, ?h83⟩) ?_
      case h83 => intro w; go_simp; try with_reducible rfl
      go_simp
      refine wpAny_done (by kernel_rfl) ?_ _
      go_wp2
      go_ret3
      exact ⟨gn, xs, ad, cap, y, rfl, HGn.out, HY.out, drawnL_grow LI76.out (by omega) SX.out, BE76.out⟩
    · skip
      go_simp
      refine (pick_any w.heap.size (p5 + 1) 7 u73 RD73.out (by omega) (by omega) (by omega)).mono ?_
      rintro e u84 ⟨x84, ⟨hx84, hy84⟩, rfl, r84, g84⟩
      have RD84 := Lib.hid r84
      have BE84 := Lib.hid (below_R BE73.out g84)
      have LI84 := Lib.hid (LI73.out.grownR g84 hRb)
      have hR84 : w.heap.size < u84.heap.size := r84.lt
      have C784 := Lib.hid (C773.out.grown g84)
      clear r84 g84
      go_simp
      refine hK _ _ ?_
      clear hK K
      obtain ⟨k6, rfl⟩ := Int.eq_ofNat_of_zero_le hx84
      have hk6 : k6 < 7 := by omega
      have hk6' : (k6 : Int) < 7 := by omega
      refine wpAny_take (i := 13) (v := ?v85) rfl (by kernel_rfl) (by kernel_rfl) (by kernel_rfl) (fun _ _ _ h => h) (Or.inl ⟨by kernel_rfl, ?h85⟩) ?_
      case h85 => intro w; go_simp; try with_reducible rfl
      go_simp
      refine wpAny_take (i := 14) (v := ?v86) rfl (by kernel_rfl) (by kernel_rfl) (by kernel_rfl) (fun _ _ _ h => h) (Or.inl ⟨by kernel_rfl, ?h86⟩) ?_
      case h86 => intro w; go_simp; try with_reducible rfl
      go_simp
      refine wpAny_take (i := 9) (v := ?v87) rfl (by kernel_rfl) (by kernel_rfl) (by kernel_rfl) (fun _ _ _ h => h) (Or.inl ⟨by kernel_rfl, ?h87⟩) ?_
      case h87 => intro w; go_simp; try with_reducible rfl
      go_simp
      refine wpAny_ready (rs := [5, 10]) (by kernel_rfl) (by simp) (AllReady.cons rfl (fun K hK => ?_) (AllReady.cons rfl (fun K hK => ?_) AllReady.nil))
      · skip
        go_simp
        refine hK _ _ ?_
        clear hK K
        have RD88 := Lib.hid (RD84.out.alloc (.cells #[.int .i64 (1 + v1), .int .i64 0, .int .i64 1001, .int .i64 1000] 3))
        have BE88 := Lib.hid (BE84.out.alloc BE84.out.size (.cells #[.int .i64 (1 + v1), .int .i64 0, .int .i64 1001, .int .i64 1000] 3))
        have LI88 := Lib.hid (LI84.out.alloc (.cells #[.int .i64 (1 + v1), .int .i64 0, .int .i64 1001, .int .i64 1000] 3))
        have hR88 : w.heap.size < (u84.alloc (.cells #[.int .i64 (1 + v1), .int .i64 0, .int .i64 1001, .int .i64 1000] 3)).heap.size := RD88.out.lt
        have C488 := Lib.hid (fouG_new u84 (1 + v1) hR84 (by omega))
        have C788 := Lib.hid (C784.out.alloc (.cells #[.int .i64 (1 + v1), .int .i64 0, .int .i64 1001, .int .i64 1000] 3))
        generalize u84.alloc (.cells #[.int .i64 (1 + v1), .int .i64 0, .int .i64 1001, .int .i64 1000] 3) = u88 at RD88 BE88 LI88 hR88 C488 C788 ⊢
        refine wpAny_ready (rs := [10]) (by kernel_rfl) (by simp) (AllReady.cons rfl (fun K hK => ?_) AllReady.nil)
        go_simp
        obtain ⟨i6, hi6, hc6⟩ := C788.out.2.2 k6 hk6
        have hi6' : (i6 : Int) < 4 := by omega
        go_simp
        refine hK _ _ ?_
        clear hK K hc6
        refine wpAny_take (i := 11) (v := ?v90) rfl (by kernel_rfl) (by kernel_rfl) (by kernel_rfl) (fun _ _ _ h => h) (Or.inl ⟨by kernel_rfl, ?h90⟩) ?_
        case h90 => intro w; go_simp; try with_reducible rfl
        go_simp
        refine wpAny_ready (rs := [12]) (by kernel_rfl) (by simp) (AllReady.cons rfl (fun K hK => ?_) AllReady.nil)
        go_simp
        obtain ⟨y, hyy, hy⟩ := C488.out.2.2 i6 hi6
        have HY := Lib.hid hyy
        clear hyy
        go_simp
        refine hK _ _ ?_
        clear hK K hy
        refine wpAny_take (i := 15) (v := ?v92) rfl (by kernel_rfl) (by kernel_rfl) (by kernel_rfl) (fun _ _ _ h => h) (Or.inl ⟨by kernel_rfl, ?h92⟩) ?_
        case h92 => intro w; go_simp; try with_reducible rfl
        go_simp
        refine wpAny_done (by kernel_rfl) ?_ _
        go_wp2
        go_ret3
        exact ⟨gn, xs, ad, cap, y, rfl, HGn.out, HY.out, drawnL_grow LI88.out (by omega) SX.out, BE88.out⟩
      · skip
        go_simp
        obtain ⟨i6, hi6, hc6⟩ := C784.out.2.2 k6 hk6
        have hi6' : (i6 : Int) < 4 := by omega
        go_simp
        refine hK _ _ ?_
        clear hK K hc6
        refine wpAny_ready (rs := [5]) (by kernel_rfl) (by simp) (AllReady.cons rfl (fun K hK => ?_) AllReady.nil)
        go_simp
        refine hK _ _ ?_
        clear hK K
        have RD94 := Lib.hid (RD84.out.alloc (.cells #[.int .i64 (1 + v1), .int .i64 0, .int .i64 1001, .int .i64 1000] 3))
        have BE94 := Lib.hid (BE84.out.alloc BE84.out.size (.cells #[.int .i64 (1 + v1), .int .i64 0, .int .i64 1001, .int .i64 1000] 3))
        have LI94 := Lib.hid (LI84.out.alloc (.cells #[.int .i64 (1 + v1), .int .i64 0, .int .i64 1001, .int .i64 1000] 3))
        have hR94 : w.heap.size < (u84.alloc (.cells #[.int .i64 (1 + v1), .int .i64 0, .int .i64 1001, .int .i64 1000] 3)).heap.size := RD94.out.lt
        have C494 := Lib.hid (fouG_new u84 (1 + v1) hR84 (by omega))
        have C794 := Lib.hid (C784.out.alloc (.cells #[.int .i64 (1 + v1), .int .i64 0, .int .i64 1001, .int .i64 1000] 3))
        generalize u84.alloc (.cells #[.int .i64 (1 + v1), .int .i64 0, .int .i64 1001, .int .i64 1000] 3) = u94 at RD94 BE94 LI94 hR94 C494 C794 ⊢
        refine wpAny_take (i := 11) (v := ?v95) rfl (by kernel_rfl) (by kernel_rfl) (by kernel_rfl) (fun _ _ _ h => h) (Or.inl ⟨by kernel_rfl, ?h95⟩) ?_
        case h95 => intro w; go_simp; try with_reducible rfl
        go_simp
        refine wpAny_ready (rs := [12]) (by kernel_rfl) (by simp) (AllReady.cons rfl (fun K hK => ?_) AllReady.nil)
        go_simp
        obtain ⟨y, hyy, hy⟩ := C494.out.2.2 i6 hi6
        have HY := Lib.hid hyy
        clear hyy
        go_simp
        refine hK _ _ ?_
        clear hK K hy
        refine wpAny_take (i := 15) (v := ?v97) rfl (by kernel_rfl) (by kernel_rfl) (by kernel_rfl) (fun _ _ _ h => h) (Or.inl ⟨by kernel_rfl, ?h97⟩) ?_
        case h97 => intro w; go_simp; try with_reducible rfl
        go_simp
        refine wpAny_done (by kernel_rfl) ?_ _
        go_wp2
        go_ret3
        exact ⟨gn, xs, ad, cap, y, rfl, HGn.out, HY.out, drawnL_grow LI94.out (by omega) SX.out, BE94.out⟩
end Go.Proofs.Ytckjlonlkckhdaa
