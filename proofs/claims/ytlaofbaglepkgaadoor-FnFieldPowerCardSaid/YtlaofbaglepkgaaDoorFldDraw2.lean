/-
  How the law of powers draws an element and an exponent: what comes out, and what it leaves.
-/
import Derived.Test.YtlaofbaglepkgaaDoorFldDraw
namespace Go.Proofs.YtlaofbaglepkgaaDoor
open Go.RowKit

/-- A drawn element and a drawn exponent. -/
def ElEx (w : World) (e : Ending) (w' : World) : Prop :=
  ∃ a n : Int, (-1 ≤ a ∧ a ≤ 16) ∧ (-1 ≤ n ∧ n ≤ 1001) ∧ e = .returned (.tuple #[.int .i64 a, .int .i64 n]) ∧ Below w.heap.size w w'
/-- Block b, not R, holds six indices below 4. -/
def Six (W : World) (R b : Nat) : Prop := b < W.heap.size ∧ b ≠ R ∧ ∀ k, k < 6 → ∃ i : Nat, i < 4 ∧ W.cell? ⟨b, k, none⟩ = some (.int .i64 (i : Int))
/-- Block b, not R, holds four exponents. -/
def Four (W : World) (R b : Nat) : Prop := b < W.heap.size ∧ b ≠ R ∧ ∀ k, k < 4 → ∃ y : Int, (-1 ≤ y ∧ y ≤ 1001) ∧ W.cell? ⟨b, k, none⟩ = some (.int .i64 y)
section
variable {W W' : World} {R b : Nat}
theorem Six.grown (h : Six W R b) (g : W.grownBy W' (some R)) : Six W' R b :=
  ⟨Nat.lt_of_lt_of_le h.1 g.size, h.2.1, fun k hk => by rw [World.cell?_of_block (g.block b h.1 (fun e => h.2.1 (by injection e)))]; exact h.2.2 k hk⟩
theorem Four.grown (h : Four W R b) (g : W.grownBy W' (some R)) : Four W' R b :=
  ⟨Nat.lt_of_lt_of_le h.1 g.size, h.2.1, fun k hk => by rw [World.cell?_of_block (g.block b h.1 (fun e => h.2.1 (by injection e)))]; exact h.2.2 k hk⟩
theorem Six.alloc (h : Six W R b) (o : Obj) : Six (W.alloc o) R b := h.grown (World.grownBy_alloc W o (some R))
theorem Four.alloc (h : Four W R b) (o : Obj) : Four (W.alloc o) R b := h.grown (World.grownBy_alloc W o (some R))
end
theorem six_new (W : World) {R : Nat} (hR : R < W.heap.size) : Six (W.alloc (.cells #[.int .i64 0, .int .i64 0, .int .i64 0, .int .i64 1, .int .i64 2, .int .i64 3] 3)) R W.heap.size :=
  ⟨by simp, by omega, fun k hk => by
    rw [cell_of_row _ _ _ _ _ _ (heap_alloc_last W _)]
    match k, hk with
    | 0, _ | 1, _ | 2, _ => exact ⟨0, by omega, rfl⟩
    | 3, _ => exact ⟨1, by omega, rfl⟩
    | 4, _ => exact ⟨2, by omega, rfl⟩
    | 5, _ => exact ⟨3, by omega, rfl⟩
    | (m + 6), h => exact absurd h (by omega)⟩
theorem four_new (W : World) (x y : Int) {R : Nat} (hR : R < W.heap.size) (hx : -1 ≤ x ∧ x ≤ 1001) (hy : -1 ≤ y ∧ y ≤ 1001) : Four (W.alloc (.cells #[.int .i64 x, .int .i64 y, .int .i64 (-1), .int .i64 1001] 3)) R W.heap.size :=
  ⟨by simp, by omega, fun k hk => by
    rw [cell_of_row _ _ _ _ _ _ (heap_alloc_last W _)]
    match k, hk with
    | 0, _ => exact ⟨x, hx, rfl⟩
    | 1, _ => exact ⟨y, hy, rfl⟩
    | 2, _ => exact ⟨-1, by omega, rfl⟩
    | 3, _ => exact ⟨1001, by omega, rfl⟩
    | (m + 4), h => exact absurd h (by omega)⟩

set_option maxRecDepth 100000 in
set_option maxHeartbeats 8000000 in
theorem drawFieldPower_any (a : Option Addr) (c : Nat) (ds : List Int) (w : World) (hx : Ints .u8 w w.heap.size a ds) (hw : ∀ n ∈ ds, isByte n) (hc : ds.length ≤ c) (hcm : c ≤ maxLen) :
    Calls Tryd.prog 19 #[.slice a ds.length c] w (ElEx w) := by
  have hl : ds.length ≤ maxLen := Nat.le_trans hc hcm
  go_enter Tryd.func19, Tryd.ntmps19
  go_wp2_with fail
  refine (open_any a c ds w hx hw hc hl hcm).mono ?_
  rintro e w1 ⟨rfl, r1, b1⟩
  have R1 := Lib.hid r1
  have B1 := Lib.hid b1
  clear hx hw hc hcm hl r1 b1
  go_wp2_with fail
  refine (element_any w.heap.size 0 9 w1 R1.out (by omega) (by omega) (by omega)).mono ?_
  rintro e w2 ⟨g, hg, rfl, p2, hp2, r2, g2⟩
  have HG := Lib.hid hg
  have RD0' := Lib.hid r2
  have BE0' := Lib.hid (below_R B1.out g2)
  clear hg r2 g2 R1 B1
  go_wp2_with fail
  refine wp_region_any (by kernel_rfl) ?_
  change wpAny _ _ _ _ _ _ _ (World.drew _)
  have RD0 : Hid (Rd w2.drew w.heap.size p2) := RD0'.out
  have BE0 : Hid (Below w.heap.size w w2.drew) := below_drewN BE0'.out 1
  have hR0 : w.heap.size < w2.drew.heap.size := RD0.out.lt
  clear RD0' BE0'
  generalize w2.drew = u0 at RD0 BE0 hR0 ⊢
  refine wpAny_take (i := 0) (v := ?v1) rfl (by kernel_rfl) (by kernel_rfl) (by kernel_rfl) (fun _ _ _ h => h) (Or.inl ⟨by kernel_rfl, ?h1⟩) ?_
  case h1 => intro w; go_simp; try with_reducible rfl
  go_simp
  refine wpAny_take (i := 1) (v := ?v2) rfl (by kernel_rfl) (by kernel_rfl) (by kernel_rfl) (fun _ _ _ h => h) (Or.inl ⟨by kernel_rfl, ?h2⟩) ?_
  case h2 => intro w; go_simp; try with_reducible rfl
  go_simp
  refine wpAny_take (i := 3) (v := ?v3) rfl (by kernel_rfl) (by kernel_rfl) (by kernel_rfl) (fun _ _ _ h => h) (Or.inl ⟨by kernel_rfl, ?h3⟩) ?_
  case h3 => intro w; go_simp; try with_reducible rfl
  go_simp
  refine wpAny_take (i := 7) (v := ?v4) rfl (by kernel_rfl) (by kernel_rfl) (by kernel_rfl) (fun _ _ _ h => h) (Or.inl ⟨by kernel_rfl, ?h4⟩) ?_
  case h4 => intro w; go_simp; try with_reducible rfl
  go_simp
  refine wpAny_ready (rs := [2, 6]) (by kernel_rfl) (by simp) (AllReady.cons rfl (fun K hK => ?_) (AllReady.cons rfl (fun K hK => ?_) AllReady.nil))
  · skip
    go_simp
    refine (pick_any w.heap.size p2 40 u0 RD0.out (by omega) (by omega) (by omega)).mono ?_
    rintro e u5 ⟨x5, ⟨hx5, hy5⟩, rfl, r5, g5⟩
    have RD5 := Lib.hid r5
    have BE5 := Lib.hid (below_R BE0.out g5)
    have hR5 : w.heap.size < u5.heap.size := r5.lt
    clear r5 g5
    go_simp
    refine hK _ _ ?_
    clear hK K
    refine wpAny_ready (rs := [4, 6]) (by kernel_rfl) (by simp) (AllReady.cons rfl (fun K hK => ?_) (AllReady.cons rfl (fun K hK => ?_) AllReady.nil))
    · skip
      go_simp
      refine (pick_any w.heap.size (p2 + 1) 1001 u5 RD5.out (by omega) (by omega) (by omega)).mono ?_
      rintro e u6 ⟨x6, ⟨hx6, hy6⟩, rfl, r6, g6⟩
      have RD6 := Lib.hid r6
      have BE6 := Lib.hid (below_R BE5.out g6)
      have hR6 : w.heap.size < u6.heap.size := r6.lt
      clear r6 g6
      go_simp
      refine hK _ _ ?_
      clear hK K
      refine wpAny_ready (rs := [5, 6, 8]) (by kernel_rfl) (by simp) (AllReady.cons rfl (fun K hK => ?_) (AllReady.cons rfl (fun K hK => ?_) (AllReady.cons rfl (fun K hK => ?_) AllReady.nil)))
      · skip
        go_simp
        refine hK _ _ ?_
        clear hK K
        have RD7 := Lib.hid (RD6.out.alloc (.cells #[.int .i64 x5, .int .i64 x6, .int .i64 (-1), .int .i64 1001] 3))
        have BE7 := Lib.hid (BE6.out.alloc BE6.out.size (.cells #[.int .i64 x5, .int .i64 x6, .int .i64 (-1), .int .i64 1001] 3))
        have hR7 : w.heap.size < (u6.alloc (.cells #[.int .i64 x5, .int .i64 x6, .int .i64 (-1), .int .i64 1001] 3)).heap.size := RD7.out.lt
        have C47 := Lib.hid (four_new u6 x5 x6 hR6 ⟨by omega, by omega⟩ ⟨by omega, by omega⟩)
        generalize u6.alloc (.cells #[.int .i64 x5, .int .i64 x6, .int .i64 (-1), .int .i64 1001] 3) = u7 at RD7 BE7 hR7 C47 ⊢
        refine wpAny_ready (rs := [6, 8]) (by kernel_rfl) (by simp) (AllReady.cons rfl (fun K hK => ?_) (AllReady.cons rfl (fun K hK => ?_) AllReady.nil))
        · skip
          go_simp
          refine hK _ _ ?_
          clear hK K
          have RD8 := Lib.hid (RD7.out.alloc (.cells #[.int .i64 0, .int .i64 0, .int .i64 0, .int .i64 1, .int .i64 2, .int .i64 3] 3))
          have BE8 := Lib.hid (BE7.out.alloc BE7.out.size (.cells #[.int .i64 0, .int .i64 0, .int .i64 0, .int .i64 1, .int .i64 2, .int .i64 3] 3))
          have hR8 : w.heap.size < (u7.alloc (.cells #[.int .i64 0, .int .i64 0, .int .i64 0, .int .i64 1, .int .i64 2, .int .i64 3] 3)).heap.size := RD8.out.lt
          have C68 := Lib.hid (six_new u7 hR7)
          have C48 := Lib.hid (C47.out.alloc (.cells #[.int .i64 0, .int .i64 0, .int .i64 0, .int .i64 1, .int .i64 2, .int .i64 3] 3))
          generalize u7.alloc (.cells #[.int .i64 0, .int .i64 0, .int .i64 0, .int .i64 1, .int .i64 2, .int .i64 3] 3) = u8 at RD8 BE8 hR8 C68 C48 ⊢
          refine wpAny_ready (rs := [8]) (by kernel_rfl) (by simp) (AllReady.cons rfl (fun K hK => ?_) AllReady.nil)
          go_simp
          refine (pick_any w.heap.size ((p2 + 1) + 1) 6 u8 RD8.out (by omega) (by omega) (by omega)).mono ?_
          rintro e u9 ⟨x9, ⟨hx9, hy9⟩, rfl, r9, g9⟩
          have RD9 := Lib.hid r9
          have BE9 := Lib.hid (below_R BE8.out g9)
          have hR9 : w.heap.size < u9.heap.size := r9.lt
          have C69 := Lib.hid (C68.out.grown g9)
          have C49 := Lib.hid (C48.out.grown g9)
          clear r9 g9
          go_simp
          refine hK _ _ ?_
          clear hK K
          obtain ⟨k6, rfl⟩ := Int.eq_ofNat_of_zero_le hx9
          have hk6 : k6 < 6 := by omega
          have hk6' : (k6 : Int) < 6 := by omega
          refine wpAny_take (i := 13) (v := ?v10) rfl (by kernel_rfl) (by kernel_rfl) (by kernel_rfl) (fun _ _ _ h => h) (Or.inl ⟨by kernel_rfl, ?h10⟩) ?_
          case h10 => intro w; go_simp; try with_reducible rfl
          go_simp
          refine wpAny_take (i := 9) (v := ?v11) rfl (by kernel_rfl) (by kernel_rfl) (by kernel_rfl) (fun _ _ _ h => h) (Or.inl ⟨by kernel_rfl, ?h11⟩) ?_
          case h11 => intro w; go_simp; try with_reducible rfl
          go_simp
          refine wpAny_ready (rs := [10]) (by kernel_rfl) (by simp) (AllReady.cons rfl (fun K hK => ?_) AllReady.nil)
          go_simp
          obtain ⟨i6, hi6, hc6⟩ := C69.out.2.2 k6 hk6
          have hi6' : (i6 : Int) < 4 := by omega
          go_simp
          refine hK _ _ ?_
          clear hK K hc6
          refine wpAny_take (i := 11) (v := ?v13) rfl (by kernel_rfl) (by kernel_rfl) (by kernel_rfl) (fun _ _ _ h => h) (Or.inl ⟨by kernel_rfl, ?h13⟩) ?_
          case h13 => intro w; go_simp; try with_reducible rfl
          go_simp
          refine wpAny_ready (rs := [12]) (by kernel_rfl) (by simp) (AllReady.cons rfl (fun K hK => ?_) AllReady.nil)
          go_simp
          obtain ⟨y, hyy, hy⟩ := C49.out.2.2 i6 hi6
          have HY := Lib.hid hyy
          clear hyy
          go_simp
          refine hK _ _ ?_
          clear hK K hy
          refine wpAny_take (i := 14) (v := ?v15) rfl (by kernel_rfl) (by kernel_rfl) (by kernel_rfl) (fun _ _ _ h => h) (Or.inl ⟨by kernel_rfl, ?h15⟩) ?_
          case h15 => intro w; go_simp; try with_reducible rfl
          go_simp
          refine wpAny_done (by kernel_rfl) ?_ _
          go_wp2
          go_ret2
          exact ⟨g, y, HG.out, HY.out, rfl, BE9.out⟩
        · skip
          go_simp
          refine (pick_any w.heap.size ((p2 + 1) + 1) 6 u7 RD7.out (by omega) (by omega) (by omega)).mono ?_
          rintro e u16 ⟨x16, ⟨hx16, hy16⟩, rfl, r16, g16⟩
          have RD16 := Lib.hid r16
          have BE16 := Lib.hid (below_R BE7.out g16)
          have hR16 : w.heap.size < u16.heap.size := r16.lt
          have C416 := Lib.hid (C47.out.grown g16)
          clear r16 g16
          go_simp
          refine hK _ _ ?_
          clear hK K
          obtain ⟨k6, rfl⟩ := Int.eq_ofNat_of_zero_le hx16
          have hk6 : k6 < 6 := by omega
          have hk6' : (k6 : Int) < 6 := by omega
          refine wpAny_take (i := 13) (v := ?v17) rfl (by kernel_rfl) (by kernel_rfl) (by kernel_rfl) (fun _ _ _ h => h) (Or.inl ⟨by kernel_rfl, ?h17⟩) ?_
          case h17 => intro w; go_simp; try with_reducible rfl
          go_simp
          refine wpAny_ready (rs := [6]) (by kernel_rfl) (by simp) (AllReady.cons rfl (fun K hK => ?_) AllReady.nil)
          go_simp
          refine hK _ _ ?_
          clear hK K
          have RD18 := Lib.hid (RD16.out.alloc (.cells #[.int .i64 0, .int .i64 0, .int .i64 0, .int .i64 1, .int .i64 2, .int .i64 3] 3))
          have BE18 := Lib.hid (BE16.out.alloc BE16.out.size (.cells #[.int .i64 0, .int .i64 0, .int .i64 0, .int .i64 1, .int .i64 2, .int .i64 3] 3))
          have hR18 : w.heap.size < (u16.alloc (.cells #[.int .i64 0, .int .i64 0, .int .i64 0, .int .i64 1, .int .i64 2, .int .i64 3] 3)).heap.size := RD18.out.lt
          have C618 := Lib.hid (six_new u16 hR16)
          have C418 := Lib.hid (C416.out.alloc (.cells #[.int .i64 0, .int .i64 0, .int .i64 0, .int .i64 1, .int .i64 2, .int .i64 3] 3))
          generalize u16.alloc (.cells #[.int .i64 0, .int .i64 0, .int .i64 0, .int .i64 1, .int .i64 2, .int .i64 3] 3) = u18 at RD18 BE18 hR18 C618 C418 ⊢
          refine wpAny_take (i := 9) (v := ?v19) rfl (by kernel_rfl) (by kernel_rfl) (by kernel_rfl) (fun _ _ _ h => h) (Or.inl ⟨by kernel_rfl, ?h19⟩) ?_
          case h19 => intro w; go_simp; try with_reducible rfl
          go_simp
          refine wpAny_ready (rs := [10]) (by kernel_rfl) (by simp) (AllReady.cons rfl (fun K hK => ?_) AllReady.nil)
          go_simp
          obtain ⟨i6, hi6, hc6⟩ := C618.out.2.2 k6 hk6
          have hi6' : (i6 : Int) < 4 := by omega
          go_simp
          refine hK _ _ ?_
          clear hK K hc6
          refine wpAny_take (i := 11) (v := ?v21) rfl (by kernel_rfl) (by kernel_rfl) (by kernel_rfl) (fun _ _ _ h => h) (Or.inl ⟨by kernel_rfl, ?h21⟩) ?_
          case h21 => intro w; go_simp; try with_reducible rfl
          go_simp
          refine wpAny_ready (rs := [12]) (by kernel_rfl) (by simp) (AllReady.cons rfl (fun K hK => ?_) AllReady.nil)
          go_simp
          obtain ⟨y, hyy, hy⟩ := C418.out.2.2 i6 hi6
          have HY := Lib.hid hyy
          clear hyy
          go_simp
          refine hK _ _ ?_
          clear hK K hy
          refine wpAny_take (i := 14) (v := ?v23) rfl (by kernel_rfl) (by kernel_rfl) (by kernel_rfl) (fun _ _ _ h => h) (Or.inl ⟨by kernel_rfl, ?h23⟩) ?_
          case h23 => intro w; go_simp; try with_reducible rfl
          go_simp
          refine wpAny_done (by kernel_rfl) ?_ _
          go_wp2
          go_ret2
          exact ⟨g, y, HG.out, HY.out, rfl, BE18.out⟩
      · skip
        go_simp
        refine hK _ _ ?_
        clear hK K
        have RD24 := Lib.hid (RD6.out.alloc (.cells #[.int .i64 0, .int .i64 0, .int .i64 0, .int .i64 1, .int .i64 2, .int .i64 3] 3))
        have BE24 := Lib.hid (BE6.out.alloc BE6.out.size (.cells #[.int .i64 0, .int .i64 0, .int .i64 0, .int .i64 1, .int .i64 2, .int .i64 3] 3))
        have hR24 : w.heap.size < (u6.alloc (.cells #[.int .i64 0, .int .i64 0, .int .i64 0, .int .i64 1, .int .i64 2, .int .i64 3] 3)).heap.size := RD24.out.lt
        have C624 := Lib.hid (six_new u6 hR6)
        generalize u6.alloc (.cells #[.int .i64 0, .int .i64 0, .int .i64 0, .int .i64 1, .int .i64 2, .int .i64 3] 3) = u24 at RD24 BE24 hR24 C624 ⊢
        refine wpAny_ready (rs := [5, 8]) (by kernel_rfl) (by simp) (AllReady.cons rfl (fun K hK => ?_) (AllReady.cons rfl (fun K hK => ?_) AllReady.nil))
        · skip
          go_simp
          refine hK _ _ ?_
          clear hK K
          have RD25 := Lib.hid (RD24.out.alloc (.cells #[.int .i64 x5, .int .i64 x6, .int .i64 (-1), .int .i64 1001] 3))
          have BE25 := Lib.hid (BE24.out.alloc BE24.out.size (.cells #[.int .i64 x5, .int .i64 x6, .int .i64 (-1), .int .i64 1001] 3))
          have hR25 : w.heap.size < (u24.alloc (.cells #[.int .i64 x5, .int .i64 x6, .int .i64 (-1), .int .i64 1001] 3)).heap.size := RD25.out.lt
          have C425 := Lib.hid (four_new u24 x5 x6 hR24 ⟨by omega, by omega⟩ ⟨by omega, by omega⟩)
          have C625 := Lib.hid (C624.out.alloc (.cells #[.int .i64 x5, .int .i64 x6, .int .i64 (-1), .int .i64 1001] 3))
          generalize u24.alloc (.cells #[.int .i64 x5, .int .i64 x6, .int .i64 (-1), .int .i64 1001] 3) = u25 at RD25 BE25 hR25 C425 C625 ⊢
          refine wpAny_ready (rs := [8]) (by kernel_rfl) (by simp) (AllReady.cons rfl (fun K hK => ?_) AllReady.nil)
          go_simp
          refine (pick_any w.heap.size ((p2 + 1) + 1) 6 u25 RD25.out (by omega) (by omega) (by omega)).mono ?_
          rintro e u26 ⟨x26, ⟨hx26, hy26⟩, rfl, r26, g26⟩
          have RD26 := Lib.hid r26
          have BE26 := Lib.hid (below_R BE25.out g26)
          have hR26 : w.heap.size < u26.heap.size := r26.lt
          have C626 := Lib.hid (C625.out.grown g26)
          have C426 := Lib.hid (C425.out.grown g26)
          clear r26 g26
          go_simp
          refine hK _ _ ?_
          clear hK K
          obtain ⟨k6, rfl⟩ := Int.eq_ofNat_of_zero_le hx26
          have hk6 : k6 < 6 := by omega
          have hk6' : (k6 : Int) < 6 := by omega
          refine wpAny_take (i := 13) (v := ?v27) rfl (by kernel_rfl) (by kernel_rfl) (by kernel_rfl) (fun _ _ _ h => h) (Or.inl ⟨by kernel_rfl, ?h27⟩) ?_
          case h27 => intro w; go_simp; try with_reducible rfl
          go_simp
          refine wpAny_take (i := 9) (v := ?v28) rfl (by kernel_rfl) (by kernel_rfl) (by kernel_rfl) (fun _ _ _ h => h) (Or.inl ⟨by kernel_rfl, ?h28⟩) ?_
          case h28 => intro w; go_simp; try with_reducible rfl
          go_simp
          refine wpAny_ready (rs := [10]) (by kernel_rfl) (by simp) (AllReady.cons rfl (fun K hK => ?_) AllReady.nil)
          go_simp
          obtain ⟨i6, hi6, hc6⟩ := C626.out.2.2 k6 hk6
          have hi6' : (i6 : Int) < 4 := by omega
          go_simp
          refine hK _ _ ?_
          clear hK K hc6
          refine wpAny_take (i := 11) (v := ?v30) rfl (by kernel_rfl) (by kernel_rfl) (by kernel_rfl) (fun _ _ _ h => h) (Or.inl ⟨by kernel_rfl, ?h30⟩) ?_
          case h30 => intro w; go_simp; try with_reducible rfl
          go_simp
          refine wpAny_ready (rs := [12]) (by kernel_rfl) (by simp) (AllReady.cons rfl (fun K hK => ?_) AllReady.nil)
          go_simp
          obtain ⟨y, hyy, hy⟩ := C426.out.2.2 i6 hi6
          have HY := Lib.hid hyy
          clear hyy
          go_simp
          refine hK _ _ ?_
          clear hK K hy
          refine wpAny_take (i := 14) (v := ?v32) rfl (by kernel_rfl) (by kernel_rfl) (by kernel_rfl) (fun _ _ _ h => h) (Or.inl ⟨by kernel_rfl, ?h32⟩) ?_
          case h32 => intro w; go_simp; try with_reducible rfl
          go_simp
          refine wpAny_done (by kernel_rfl) ?_ _
          go_wp2
          go_ret2
          exact ⟨g, y, HG.out, HY.out, rfl, BE26.out⟩
        · skip
          go_simp
          refine (pick_any w.heap.size ((p2 + 1) + 1) 6 u24 RD24.out (by omega) (by omega) (by omega)).mono ?_
          rintro e u33 ⟨x33, ⟨hx33, hy33⟩, rfl, r33, g33⟩
          have RD33 := Lib.hid r33
          have BE33 := Lib.hid (below_R BE24.out g33)
          have hR33 : w.heap.size < u33.heap.size := r33.lt
          have C633 := Lib.hid (C624.out.grown g33)
          clear r33 g33
          go_simp
          refine hK _ _ ?_
          clear hK K
          obtain ⟨k6, rfl⟩ := Int.eq_ofNat_of_zero_le hx33
          have hk6 : k6 < 6 := by omega
          have hk6' : (k6 : Int) < 6 := by omega
          refine wpAny_take (i := 13) (v := ?v34) rfl (by kernel_rfl) (by kernel_rfl) (by kernel_rfl) (fun _ _ _ h => h) (Or.inl ⟨by kernel_rfl, ?h34⟩) ?_
          case h34 => intro w; go_simp; try with_reducible rfl
          go_simp
          refine wpAny_take (i := 9) (v := ?v35) rfl (by kernel_rfl) (by kernel_rfl) (by kernel_rfl) (fun _ _ _ h => h) (Or.inl ⟨by kernel_rfl, ?h35⟩) ?_
          case h35 => intro w; go_simp; try with_reducible rfl
          go_simp
          refine wpAny_ready (rs := [5, 10]) (by kernel_rfl) (by simp) (AllReady.cons rfl (fun K hK => ?_) (AllReady.cons rfl (fun K hK => ?_) AllReady.nil))
          · skip
            go_simp
            refine hK _ _ ?_
            clear hK K
            have RD36 := Lib.hid (RD33.out.alloc (.cells #[.int .i64 x5, .int .i64 x6, .int .i64 (-1), .int .i64 1001] 3))
            have BE36 := Lib.hid (BE33.out.alloc BE33.out.size (.cells #[.int .i64 x5, .int .i64 x6, .int .i64 (-1), .int .i64 1001] 3))
            have hR36 : w.heap.size < (u33.alloc (.cells #[.int .i64 x5, .int .i64 x6, .int .i64 (-1), .int .i64 1001] 3)).heap.size := RD36.out.lt
            have C436 := Lib.hid (four_new u33 x5 x6 hR33 ⟨by omega, by omega⟩ ⟨by omega, by omega⟩)
            have C636 := Lib.hid (C633.out.alloc (.cells #[.int .i64 x5, .int .i64 x6, .int .i64 (-1), .int .i64 1001] 3))
            generalize u33.alloc (.cells #[.int .i64 x5, .int .i64 x6, .int .i64 (-1), .int .i64 1001] 3) = u36 at RD36 BE36 hR36 C436 C636 ⊢
            refine wpAny_ready (rs := [10]) (by kernel_rfl) (by simp) (AllReady.cons rfl (fun K hK => ?_) AllReady.nil)
            go_simp
            obtain ⟨i6, hi6, hc6⟩ := C636.out.2.2 k6 hk6
            have hi6' : (i6 : Int) < 4 := by omega
            go_simp
            refine hK _ _ ?_
            clear hK K hc6
            refine wpAny_take (i := 11) (v := ?v38) rfl (by kernel_rfl) (by kernel_rfl) (by kernel_rfl) (fun _ _ _ h => h) (Or.inl ⟨by kernel_rfl, ?h38⟩) ?_
            case h38 => intro w; go_simp; try with_reducible rfl
            go_simp
            refine wpAny_ready (rs := [12]) (by kernel_rfl) (by simp) (AllReady.cons rfl (fun K hK => ?_) AllReady.nil)
            go_simp
            obtain ⟨y, hyy, hy⟩ := C436.out.2.2 i6 hi6
            have HY := Lib.hid hyy
            clear hyy
            go_simp
            refine hK _ _ ?_
            clear hK K hy
            refine wpAny_take (i := 14) (v := ?v40) rfl (by kernel_rfl) (by kernel_rfl) (by kernel_rfl) (fun _ _ _ h => h) (Or.inl ⟨by kernel_rfl, ?h40⟩) ?_
            case h40 => intro w; go_simp; try with_reducible rfl
            go_simp
            refine wpAny_done (by kernel_rfl) ?_ _
            go_wp2
            go_ret2
            exact ⟨g, y, HG.out, HY.out, rfl, BE36.out⟩
          · skip
            go_simp
            obtain ⟨i6, hi6, hc6⟩ := C633.out.2.2 k6 hk6
            have hi6' : (i6 : Int) < 4 := by omega
            go_simp
            refine hK _ _ ?_
            clear hK K hc6
            refine wpAny_ready (rs := [5]) (by kernel_rfl) (by simp) (AllReady.cons rfl (fun K hK => ?_) AllReady.nil)
            go_simp
            refine hK _ _ ?_
            clear hK K
            have RD42 := Lib.hid (RD33.out.alloc (.cells #[.int .i64 x5, .int .i64 x6, .int .i64 (-1), .int .i64 1001] 3))
            have BE42 := Lib.hid (BE33.out.alloc BE33.out.size (.cells #[.int .i64 x5, .int .i64 x6, .int .i64 (-1), .int .i64 1001] 3))
            have hR42 : w.heap.size < (u33.alloc (.cells #[.int .i64 x5, .int .i64 x6, .int .i64 (-1), .int .i64 1001] 3)).heap.size := RD42.out.lt
            have C442 := Lib.hid (four_new u33 x5 x6 hR33 ⟨by omega, by omega⟩ ⟨by omega, by omega⟩)
            have C642 := Lib.hid (C633.out.alloc (.cells #[.int .i64 x5, .int .i64 x6, .int .i64 (-1), .int .i64 1001] 3))
            generalize u33.alloc (.cells #[.int .i64 x5, .int .i64 x6, .int .i64 (-1), .int .i64 1001] 3) = u42 at RD42 BE42 hR42 C442 C642 ⊢
            refine wpAny_take (i := 11) (v := ?v43) rfl (by kernel_rfl) (by kernel_rfl) (by kernel_rfl) (fun _ _ _ h => h) (Or.inl ⟨by kernel_rfl, ?h43⟩) ?_
            case h43 => intro w; go_simp; try with_reducible rfl
            go_simp
            refine wpAny_ready (rs := [12]) (by kernel_rfl) (by simp) (AllReady.cons rfl (fun K hK => ?_) AllReady.nil)
            go_simp
            obtain ⟨y, hyy, hy⟩ := C442.out.2.2 i6 hi6
            have HY := Lib.hid hyy
            clear hyy
            go_simp
            refine hK _ _ ?_
            clear hK K hy
            refine wpAny_take (i := 14) (v := ?v45) rfl (by kernel_rfl) (by kernel_rfl) (by kernel_rfl) (fun _ _ _ h => h) (Or.inl ⟨by kernel_rfl, ?h45⟩) ?_
            case h45 => intro w; go_simp; try with_reducible rfl
            go_simp
            refine wpAny_done (by kernel_rfl) ?_ _
            go_wp2
            go_ret2
            exact ⟨g, y, HG.out, HY.out, rfl, BE42.out⟩
      · skip
        go_simp
        refine (pick_any w.heap.size ((p2 + 1) + 1) 6 u6 RD6.out (by omega) (by omega) (by omega)).mono ?_
        rintro e u46 ⟨x46, ⟨hx46, hy46⟩, rfl, r46, g46⟩
        have RD46 := Lib.hid r46
        have BE46 := Lib.hid (below_R BE6.out g46)
        have hR46 : w.heap.size < u46.heap.size := r46.lt
        clear r46 g46
        go_simp
        refine hK _ _ ?_
        clear hK K
        obtain ⟨k6, rfl⟩ := Int.eq_ofNat_of_zero_le hx46
        have hk6 : k6 < 6 := by omega
        have hk6' : (k6 : Int) < 6 := by omega
        refine wpAny_take (i := 13) (v := ?v47) rfl (by kernel_rfl) (by kernel_rfl) (by kernel_rfl) (fun _ _ _ h => h) (Or.inl ⟨by kernel_rfl, ?h47⟩) ?_
        case h47 => intro w; go_simp; try with_reducible rfl
        go_simp
        refine wpAny_ready (rs := [5, 6]) (by kernel_rfl) (by simp) (AllReady.cons rfl (fun K hK => ?_) (AllReady.cons rfl (fun K hK => ?_) AllReady.nil))
        · skip
          go_simp
          refine hK _ _ ?_
          clear hK K
          have RD48 := Lib.hid (RD46.out.alloc (.cells #[.int .i64 x5, .int .i64 x6, .int .i64 (-1), .int .i64 1001] 3))
          have BE48 := Lib.hid (BE46.out.alloc BE46.out.size (.cells #[.int .i64 x5, .int .i64 x6, .int .i64 (-1), .int .i64 1001] 3))
          have hR48 : w.heap.size < (u46.alloc (.cells #[.int .i64 x5, .int .i64 x6, .int .i64 (-1), .int .i64 1001] 3)).heap.size := RD48.out.lt
          have C448 := Lib.hid (four_new u46 x5 x6 hR46 ⟨by omega, by omega⟩ ⟨by omega, by omega⟩)
          generalize u46.alloc (.cells #[.int .i64 x5, .int .i64 x6, .int .i64 (-1), .int .i64 1001] 3) = u48 at RD48 BE48 hR48 C448 ⊢
          refine wpAny_ready (rs := [6]) (by kernel_rfl) (by simp) (AllReady.cons rfl (fun K hK => ?_) AllReady.nil)
          go_simp
          refine hK _ _ ?_
          clear hK K
          have RD49 := Lib.hid (RD48.out.alloc (.cells #[.int .i64 0, .int .i64 0, .int .i64 0, .int .i64 1, .int .i64 2, .int .i64 3] 3))
          have BE49 := Lib.hid (BE48.out.alloc BE48.out.size (.cells #[.int .i64 0, .int .i64 0, .int .i64 0, .int .i64 1, .int .i64 2, .int .i64 3] 3))
          have hR49 : w.heap.size < (u48.alloc (.cells #[.int .i64 0, .int .i64 0, .int .i64 0, .int .i64 1, .int .i64 2, .int .i64 3] 3)).heap.size := RD49.out.lt
          have C649 := Lib.hid (six_new u48 hR48)
          have C449 := Lib.hid (C448.out.alloc (.cells #[.int .i64 0, .int .i64 0, .int .i64 0, .int .i64 1, .int .i64 2, .int .i64 3] 3))
          generalize u48.alloc (.cells #[.int .i64 0, .int .i64 0, .int .i64 0, .int .i64 1, .int .i64 2, .int .i64 3] 3) = u49 at RD49 BE49 hR49 C649 C449 ⊢
          refine wpAny_take (i := 9) (v := ?v50) rfl (by kernel_rfl) (by kernel_rfl) (by kernel_rfl) (fun _ _ _ h => h) (Or.inl ⟨by kernel_rfl, ?h50⟩) ?_
          case h50 => intro w; go_simp; try with_reducible rfl
          go_simp
          refine wpAny_ready (rs := [10]) (by kernel_rfl) (by simp) (AllReady.cons rfl (fun K hK => ?_) AllReady.nil)
          go_simp
          obtain ⟨i6, hi6, hc6⟩ := C649.out.2.2 k6 hk6
          have hi6' : (i6 : Int) < 4 := by omega
          go_simp
          refine hK _ _ ?_
          clear hK K hc6
          refine wpAny_take (i := 11) (v := ?v52) rfl (by kernel_rfl) (by kernel_rfl) (by kernel_rfl) (fun _ _ _ h => h) (Or.inl ⟨by kernel_rfl, ?h52⟩) ?_
          case h52 => intro w; go_simp; try with_reducible rfl
          go_simp
          refine wpAny_ready (rs := [12]) (by kernel_rfl) (by simp) (AllReady.cons rfl (fun K hK => ?_) AllReady.nil)
          go_simp
          obtain ⟨y, hyy, hy⟩ := C449.out.2.2 i6 hi6
          have HY := Lib.hid hyy
          clear hyy
          go_simp
          refine hK _ _ ?_
          clear hK K hy
          refine wpAny_take (i := 14) (v := ?v54) rfl (by kernel_rfl) (by kernel_rfl) (by kernel_rfl) (fun _ _ _ h => h) (Or.inl ⟨by kernel_rfl, ?h54⟩) ?_
          case h54 => intro w; go_simp; try with_reducible rfl
          go_simp
          refine wpAny_done (by kernel_rfl) ?_ _
          go_wp2
          go_ret2
          exact ⟨g, y, HG.out, HY.out, rfl, BE49.out⟩
        · skip
          go_simp
          refine hK _ _ ?_
          clear hK K
          have RD55 := Lib.hid (RD46.out.alloc (.cells #[.int .i64 0, .int .i64 0, .int .i64 0, .int .i64 1, .int .i64 2, .int .i64 3] 3))
          have BE55 := Lib.hid (BE46.out.alloc BE46.out.size (.cells #[.int .i64 0, .int .i64 0, .int .i64 0, .int .i64 1, .int .i64 2, .int .i64 3] 3))
          have hR55 : w.heap.size < (u46.alloc (.cells #[.int .i64 0, .int .i64 0, .int .i64 0, .int .i64 1, .int .i64 2, .int .i64 3] 3)).heap.size := RD55.out.lt
          have C655 := Lib.hid (six_new u46 hR46)
          generalize u46.alloc (.cells #[.int .i64 0, .int .i64 0, .int .i64 0, .int .i64 1, .int .i64 2, .int .i64 3] 3) = u55 at RD55 BE55 hR55 C655 ⊢
          refine wpAny_take (i := 9) (v := ?v56) rfl (by kernel_rfl) (by kernel_rfl) (by kernel_rfl) (fun _ _ _ h => h) (Or.inl ⟨by kernel_rfl, ?h56⟩) ?_
          case h56 => intro w; go_simp; try with_reducible rfl
          go_simp
          refine wpAny_ready (rs := [5, 10]) (by kernel_rfl) (by simp) (AllReady.cons rfl (fun K hK => ?_) (AllReady.cons rfl (fun K hK => ?_) AllReady.nil))
          · skip
            go_simp
            refine hK _ _ ?_
            clear hK K
            have RD57 := Lib.hid (RD55.out.alloc (.cells #[.int .i64 x5, .int .i64 x6, .int .i64 (-1), .int .i64 1001] 3))
            have BE57 := Lib.hid (BE55.out.alloc BE55.out.size (.cells #[.int .i64 x5, .int .i64 x6, .int .i64 (-1), .int .i64 1001] 3))
            have hR57 : w.heap.size < (u55.alloc (.cells #[.int .i64 x5, .int .i64 x6, .int .i64 (-1), .int .i64 1001] 3)).heap.size := RD57.out.lt
            have C457 := Lib.hid (four_new u55 x5 x6 hR55 ⟨by omega, by omega⟩ ⟨by omega, by omega⟩)
            have C657 := Lib.hid (C655.out.alloc (.cells #[.int .i64 x5, .int .i64 x6, .int .i64 (-1), .int .i64 1001] 3))
            generalize u55.alloc (.cells #[.int .i64 x5, .int .i64 x6, .int .i64 (-1), .int .i64 1001] 3) = u57 at RD57 BE57 hR57 C457 C657 ⊢
            refine wpAny_ready (rs := [10]) (by kernel_rfl) (by simp) (AllReady.cons rfl (fun K hK => ?_) AllReady.nil)
            go_simp
            obtain ⟨i6, hi6, hc6⟩ := C657.out.2.2 k6 hk6
            have hi6' : (i6 : Int) < 4 := by omega
            go_simp
            refine hK _ _ ?_
            clear hK K hc6
            refine wpAny_take (i := 11) (v := ?v59) rfl (by kernel_rfl) (by kernel_rfl) (by kernel_rfl) (fun _ _ _ h => h) (Or.inl ⟨by kernel_rfl, ?h59⟩) ?_
            case h59 => intro w; go_simp; try with_reducible rfl
            go_simp
            refine wpAny_ready (rs := [12]) (by kernel_rfl) (by simp) (AllReady.cons rfl (fun K hK => ?_) AllReady.nil)
            go_simp
            obtain ⟨y, hyy, hy⟩ := C457.out.2.2 i6 hi6
            have HY := Lib.hid hyy
            clear hyy
            go_simp
            refine hK _ _ ?_
            clear hK K hy
            refine wpAny_take (i := 14) (v := ?v61) rfl (by kernel_rfl) (by kernel_rfl) (by kernel_rfl) (fun _ _ _ h => h) (Or.inl ⟨by kernel_rfl, ?h61⟩) ?_
            case h61 => intro w; go_simp; try with_reducible rfl
            go_simp
            refine wpAny_done (by kernel_rfl) ?_ _
            go_wp2
            go_ret2
            exact ⟨g, y, HG.out, HY.out, rfl, BE57.out⟩
          · skip
            go_simp
            obtain ⟨i6, hi6, hc6⟩ := C655.out.2.2 k6 hk6
            have hi6' : (i6 : Int) < 4 := by omega
            go_simp
            refine hK _ _ ?_
            clear hK K hc6
            refine wpAny_ready (rs := [5]) (by kernel_rfl) (by simp) (AllReady.cons rfl (fun K hK => ?_) AllReady.nil)
            go_simp
            refine hK _ _ ?_
            clear hK K
            have RD63 := Lib.hid (RD55.out.alloc (.cells #[.int .i64 x5, .int .i64 x6, .int .i64 (-1), .int .i64 1001] 3))
            have BE63 := Lib.hid (BE55.out.alloc BE55.out.size (.cells #[.int .i64 x5, .int .i64 x6, .int .i64 (-1), .int .i64 1001] 3))
            have hR63 : w.heap.size < (u55.alloc (.cells #[.int .i64 x5, .int .i64 x6, .int .i64 (-1), .int .i64 1001] 3)).heap.size := RD63.out.lt
            have C463 := Lib.hid (four_new u55 x5 x6 hR55 ⟨by omega, by omega⟩ ⟨by omega, by omega⟩)
            have C663 := Lib.hid (C655.out.alloc (.cells #[.int .i64 x5, .int .i64 x6, .int .i64 (-1), .int .i64 1001] 3))
            generalize u55.alloc (.cells #[.int .i64 x5, .int .i64 x6, .int .i64 (-1), .int .i64 1001] 3) = u63 at RD63 BE63 hR63 C463 C663 ⊢
            refine wpAny_take (i := 11) (v := ?v64) rfl (by kernel_rfl) (by kernel_rfl) (by kernel_rfl) (fun _ _ _ h => h) (Or.inl ⟨by kernel_rfl, ?h64⟩) ?_
            case h64 => intro w; go_simp; try with_reducible rfl
            go_simp
            refine wpAny_ready (rs := [12]) (by kernel_rfl) (by simp) (AllReady.cons rfl (fun K hK => ?_) AllReady.nil)
            go_simp
            obtain ⟨y, hyy, hy⟩ := C463.out.2.2 i6 hi6
            have HY := Lib.hid hyy
            clear hyy
            go_simp
            refine hK _ _ ?_
            clear hK K hy
            refine wpAny_take (i := 14) (v := ?v66) rfl (by kernel_rfl) (by kernel_rfl) (by kernel_rfl) (fun _ _ _ h => h) (Or.inl ⟨by kernel_rfl, ?h66⟩) ?_
            case h66 => intro w; go_simp; try with_reducible rfl
            go_simp
            refine wpAny_done (by kernel_rfl) ?_ _
            go_wp2
            go_ret2
            exact ⟨g, y, HG.out, HY.out, rfl, BE63.out⟩
    · skip
      go_simp
      refine hK _ _ ?_
      clear hK K
      have RD67 := Lib.hid (RD5.out.alloc (.cells #[.int .i64 0, .int .i64 0, .int .i64 0, .int .i64 1, .int .i64 2, .int .i64 3] 3))
      have BE67 := Lib.hid (BE5.out.alloc BE5.out.size (.cells #[.int .i64 0, .int .i64 0, .int .i64 0, .int .i64 1, .int .i64 2, .int .i64 3] 3))
      have hR67 : w.heap.size < (u5.alloc (.cells #[.int .i64 0, .int .i64 0, .int .i64 0, .int .i64 1, .int .i64 2, .int .i64 3] 3)).heap.size := RD67.out.lt
      have C667 := Lib.hid (six_new u5 hR5)
      generalize u5.alloc (.cells #[.int .i64 0, .int .i64 0, .int .i64 0, .int .i64 1, .int .i64 2, .int .i64 3] 3) = u67 at RD67 BE67 hR67 C667 ⊢
      refine wpAny_ready (rs := [4]) (by kernel_rfl) (by simp) (AllReady.cons rfl (fun K hK => ?_) AllReady.nil)
      go_simp
      refine (pick_any w.heap.size (p2 + 1) 1001 u67 RD67.out (by omega) (by omega) (by omega)).mono ?_
      rintro e u68 ⟨x68, ⟨hx68, hy68⟩, rfl, r68, g68⟩
      have RD68 := Lib.hid r68
      have BE68 := Lib.hid (below_R BE67.out g68)
      have hR68 : w.heap.size < u68.heap.size := r68.lt
      have C668 := Lib.hid (C667.out.grown g68)
      clear r68 g68
      go_simp
      refine hK _ _ ?_
      clear hK K
      refine wpAny_ready (rs := [5, 8]) (by kernel_rfl) (by simp) (AllReady.cons rfl (fun K hK => ?_) (AllReady.cons rfl (fun K hK => ?_) AllReady.nil))
      · skip
        go_simp
        refine hK _ _ ?_
        clear hK K
        have RD69 := Lib.hid (RD68.out.alloc (.cells #[.int .i64 x5, .int .i64 x68, .int .i64 (-1), .int .i64 1001] 3))
        have BE69 := Lib.hid (BE68.out.alloc BE68.out.size (.cells #[.int .i64 x5, .int .i64 x68, .int .i64 (-1), .int .i64 1001] 3))
        have hR69 : w.heap.size < (u68.alloc (.cells #[.int .i64 x5, .int .i64 x68, .int .i64 (-1), .int .i64 1001] 3)).heap.size := RD69.out.lt
        have C469 := Lib.hid (four_new u68 x5 x68 hR68 ⟨by omega, by omega⟩ ⟨by omega, by omega⟩)
        have C669 := Lib.hid (C668.out.alloc (.cells #[.int .i64 x5, .int .i64 x68, .int .i64 (-1), .int .i64 1001] 3))
        generalize u68.alloc (.cells #[.int .i64 x5, .int .i64 x68, .int .i64 (-1), .int .i64 1001] 3) = u69 at RD69 BE69 hR69 C469 C669 ⊢
        refine wpAny_ready (rs := [8]) (by kernel_rfl) (by simp) (AllReady.cons rfl (fun K hK => ?_) AllReady.nil)
        go_simp
        refine (pick_any w.heap.size ((p2 + 1) + 1) 6 u69 RD69.out (by omega) (by omega) (by omega)).mono ?_
        rintro e u70 ⟨x70, ⟨hx70, hy70⟩, rfl, r70, g70⟩
        have RD70 := Lib.hid r70
        have BE70 := Lib.hid (below_R BE69.out g70)
        have hR70 : w.heap.size < u70.heap.size := r70.lt
        have C670 := Lib.hid (C669.out.grown g70)
        have C470 := Lib.hid (C469.out.grown g70)
        clear r70 g70
        go_simp
        refine hK _ _ ?_
        clear hK K
        obtain ⟨k6, rfl⟩ := Int.eq_ofNat_of_zero_le hx70
        have hk6 : k6 < 6 := by omega
        have hk6' : (k6 : Int) < 6 := by omega
        refine wpAny_take (i := 13) (v := ?v71) rfl (by kernel_rfl) (by kernel_rfl) (by kernel_rfl) (fun _ _ _ h => h) (Or.inl ⟨by kernel_rfl, ?h71⟩) ?_
        case h71 => intro w; go_simp; try with_reducible rfl
        go_simp
        refine wpAny_take (i := 9) (v := ?v72) rfl (by kernel_rfl) (by kernel_rfl) (by kernel_rfl) (fun _ _ _ h => h) (Or.inl ⟨by kernel_rfl, ?h72⟩) ?_
        case h72 => intro w; go_simp; try with_reducible rfl
        go_simp
        refine wpAny_ready (rs := [10]) (by kernel_rfl) (by simp) (AllReady.cons rfl (fun K hK => ?_) AllReady.nil)
        go_simp
        obtain ⟨i6, hi6, hc6⟩ := C670.out.2.2 k6 hk6
        have hi6' : (i6 : Int) < 4 := by omega
        go_simp
        refine hK _ _ ?_
        clear hK K hc6
        refine wpAny_take (i := 11) (v := ?v74) rfl (by kernel_rfl) (by kernel_rfl) (by kernel_rfl) (fun _ _ _ h => h) (Or.inl ⟨by kernel_rfl, ?h74⟩) ?_
        case h74 => intro w; go_simp; try with_reducible rfl
        go_simp
        refine wpAny_ready (rs := [12]) (by kernel_rfl) (by simp) (AllReady.cons rfl (fun K hK => ?_) AllReady.nil)
        go_simp
        obtain ⟨y, hyy, hy⟩ := C470.out.2.2 i6 hi6
        have HY := Lib.hid hyy
        clear hyy
        go_simp
        refine hK _ _ ?_
        clear hK K hy
        refine wpAny_take (i := 14) (v := ?v76) rfl (by kernel_rfl) (by kernel_rfl) (by kernel_rfl) (fun _ _ _ h => h) (Or.inl ⟨by kernel_rfl, ?h76⟩) ?_
        case h76 => intro w; go_simp; try with_reducible rfl
        go_simp
        refine wpAny_done (by kernel_rfl) ?_ _
        go_wp2
        go_ret2
        exact ⟨g, y, HG.out, HY.out, rfl, BE70.out⟩
      · skip
        go_simp
        refine (pick_any w.heap.size ((p2 + 1) + 1) 6 u68 RD68.out (by omega) (by omega) (by omega)).mono ?_
        rintro e u77 ⟨x77, ⟨hx77, hy77⟩, rfl, r77, g77⟩
        have RD77 := Lib.hid r77
        have BE77 := Lib.hid (below_R BE68.out g77)
        have hR77 : w.heap.size < u77.heap.size := r77.lt
        have C677 := Lib.hid (C668.out.grown g77)
        clear r77 g77
        go_simp
        refine hK _ _ ?_
        clear hK K
        obtain ⟨k6, rfl⟩ := Int.eq_ofNat_of_zero_le hx77
        have hk6 : k6 < 6 := by omega
        have hk6' : (k6 : Int) < 6 := by omega
        refine wpAny_take (i := 13) (v := ?v78) rfl (by kernel_rfl) (by kernel_rfl) (by kernel_rfl) (fun _ _ _ h => h) (Or.inl ⟨by kernel_rfl, ?h78⟩) ?_
        case h78 => intro w; go_simp; try with_reducible rfl
        go_simp
        refine wpAny_take (i := 9) (v := ?v79) rfl (by kernel_rfl) (by kernel_rfl) (by kernel_rfl) (fun _ _ _ h => h) (Or.inl ⟨by kernel_rfl, ?h79⟩) ?_
        case h79 => intro w; go_simp; try with_reducible rfl
        go_simp
        refine wpAny_ready (rs := [5, 10]) (by kernel_rfl) (by simp) (AllReady.cons rfl (fun K hK => ?_) (AllReady.cons rfl (fun K hK => ?_) AllReady.nil))
        · skip
          go_simp
          refine hK _ _ ?_
          clear hK K
          have RD80 := Lib.hid (RD77.out.alloc (.cells #[.int .i64 x5, .int .i64 x68, .int .i64 (-1), .int .i64 1001] 3))
          have BE80 := Lib.hid (BE77.out.alloc BE77.out.size (.cells #[.int .i64 x5, .int .i64 x68, .int .i64 (-1), .int .i64 1001] 3))
          have hR80 : w.heap.size < (u77.alloc (.cells #[.int .i64 x5, .int .i64 x68, .int .i64 (-1), .int .i64 1001] 3)).heap.size := RD80.out.lt
          have C480 := Lib.hid (four_new u77 x5 x68 hR77 ⟨by omega, by omega⟩ ⟨by omega, by omega⟩)
          have C680 := Lib.hid (C677.out.alloc (.cells #[.int .i64 x5, .int .i64 x68, .int .i64 (-1), .int .i64 1001] 3))
          generalize u77.alloc (.cells #[.int .i64 x5, .int .i64 x68, .int .i64 (-1), .int .i64 1001] 3) = u80 at RD80 BE80 hR80 C480 C680 ⊢
          refine wpAny_ready (rs := [10]) (by kernel_rfl) (by simp) (AllReady.cons rfl (fun K hK => ?_) AllReady.nil)
          go_simp
          obtain ⟨i6, hi6, hc6⟩ := C680.out.2.2 k6 hk6
          have hi6' : (i6 : Int) < 4 := by omega
          go_simp
          refine hK _ _ ?_
          clear hK K hc6
          refine wpAny_take (i := 11) (v := ?v82) rfl (by kernel_rfl) (by kernel_rfl) (by kernel_rfl) (fun _ _ _ h => h) (Or.inl ⟨by kernel_rfl, ?h82⟩) ?_
          case h82 => intro w; go_simp; try with_reducible rfl
          go_simp
          refine wpAny_ready (rs := [12]) (by kernel_rfl) (by simp) (AllReady.cons rfl (fun K hK => ?_) AllReady.nil)
          go_simp
          obtain ⟨y, hyy, hy⟩ := C480.out.2.2 i6 hi6
          have HY := Lib.hid hyy
          clear hyy
          go_simp
          refine hK _ _ ?_
          clear hK K hy
          refine wpAny_take (i := 14) (v := ?v84) rfl (by kernel_rfl) (by kernel_rfl) (by kernel_rfl) (fun _ _ _ h => h) (Or.inl ⟨by kernel_rfl, ?h84⟩) ?_
          case h84 => intro w; go_simp; try with_reducible rfl
          go_simp
          refine wpAny_done (by kernel_rfl) ?_ _
          go_wp2
          go_ret2
          exact ⟨g, y, HG.out, HY.out, rfl, BE80.out⟩
        · skip
          go_simp
          obtain ⟨i6, hi6, hc6⟩ := C677.out.2.2 k6 hk6
          have hi6' : (i6 : Int) < 4 := by omega
          go_simp
          refine hK _ _ ?_
          clear hK K hc6
          refine wpAny_ready (rs := [5]) (by kernel_rfl) (by simp) (AllReady.cons rfl (fun K hK => ?_) AllReady.nil)
          go_simp
          refine hK _ _ ?_
          clear hK K
          have RD86 := Lib.hid (RD77.out.alloc (.cells #[.int .i64 x5, .int .i64 x68, .int .i64 (-1), .int .i64 1001] 3))
          have BE86 := Lib.hid (BE77.out.alloc BE77.out.size (.cells #[.int .i64 x5, .int .i64 x68, .int .i64 (-1), .int .i64 1001] 3))
          have hR86 : w.heap.size < (u77.alloc (.cells #[.int .i64 x5, .int .i64 x68, .int .i64 (-1), .int .i64 1001] 3)).heap.size := RD86.out.lt
          have C486 := Lib.hid (four_new u77 x5 x68 hR77 ⟨by omega, by omega⟩ ⟨by omega, by omega⟩)
          have C686 := Lib.hid (C677.out.alloc (.cells #[.int .i64 x5, .int .i64 x68, .int .i64 (-1), .int .i64 1001] 3))
          generalize u77.alloc (.cells #[.int .i64 x5, .int .i64 x68, .int .i64 (-1), .int .i64 1001] 3) = u86 at RD86 BE86 hR86 C486 C686 ⊢
          refine wpAny_take (i := 11) (v := ?v87) rfl (by kernel_rfl) (by kernel_rfl) (by kernel_rfl) (fun _ _ _ h => h) (Or.inl ⟨by kernel_rfl, ?h87⟩) ?_
          case h87 => intro w; go_simp; try with_reducible rfl
          go_simp
          refine wpAny_ready (rs := [12]) (by kernel_rfl) (by simp) (AllReady.cons rfl (fun K hK => ?_) AllReady.nil)
          go_simp
          obtain ⟨y, hyy, hy⟩ := C486.out.2.2 i6 hi6
          have HY := Lib.hid hyy
          clear hyy
          go_simp
          refine hK _ _ ?_
          clear hK K hy
          refine wpAny_take (i := 14) (v := ?v89) rfl (by kernel_rfl) (by kernel_rfl) (by kernel_rfl) (fun _ _ _ h => h) (Or.inl ⟨by kernel_rfl, ?h89⟩) ?_
          case h89 => intro w; go_simp; try with_reducible rfl
          go_simp
          refine wpAny_done (by kernel_rfl) ?_ _
          go_wp2
          go_ret2
          exact ⟨g, y, HG.out, HY.out, rfl, BE86.out⟩
  · skip
    go_simp
    refine hK _ _ ?_
    clear hK K
    have RD90 := Lib.hid (RD0.out.alloc (.cells #[.int .i64 0, .int .i64 0, .int .i64 0, .int .i64 1, .int .i64 2, .int .i64 3] 3))
    have BE90 := Lib.hid (BE0.out.alloc BE0.out.size (.cells #[.int .i64 0, .int .i64 0, .int .i64 0, .int .i64 1, .int .i64 2, .int .i64 3] 3))
    have hR90 : w.heap.size < (u0.alloc (.cells #[.int .i64 0, .int .i64 0, .int .i64 0, .int .i64 1, .int .i64 2, .int .i64 3] 3)).heap.size := RD90.out.lt
    have C690 := Lib.hid (six_new u0 hR0)
    generalize u0.alloc (.cells #[.int .i64 0, .int .i64 0, .int .i64 0, .int .i64 1, .int .i64 2, .int .i64 3] 3) = u90 at RD90 BE90 hR90 C690 ⊢
    refine wpAny_ready (rs := [2]) (by kernel_rfl) (by simp) (AllReady.cons rfl (fun K hK => ?_) AllReady.nil)
    go_simp
    refine (pick_any w.heap.size p2 40 u90 RD90.out (by omega) (by omega) (by omega)).mono ?_
    rintro e u91 ⟨x91, ⟨hx91, hy91⟩, rfl, r91, g91⟩
    have RD91 := Lib.hid r91
    have BE91 := Lib.hid (below_R BE90.out g91)
    have hR91 : w.heap.size < u91.heap.size := r91.lt
    have C691 := Lib.hid (C690.out.grown g91)
    clear r91 g91
    go_simp
    refine hK _ _ ?_
    clear hK K
    refine wpAny_ready (rs := [4]) (by kernel_rfl) (by simp) (AllReady.cons rfl (fun K hK => ?_) AllReady.nil)
    go_simp
    refine (pick_any w.heap.size (p2 + 1) 1001 u91 RD91.out (by omega) (by omega) (by omega)).mono ?_
    rintro e u92 ⟨x92, ⟨hx92, hy92⟩, rfl, r92, g92⟩
    have RD92 := Lib.hid r92
    have BE92 := Lib.hid (below_R BE91.out g92)
    have hR92 : w.heap.size < u92.heap.size := r92.lt
    have C692 := Lib.hid (C691.out.grown g92)
    clear r92 g92
    go_simp
    refine hK _ _ ?_
    clear hK K
    refine wpAny_ready (rs := [5, 8]) (by kernel_rfl) (by simp) (AllReady.cons rfl (fun K hK => ?_) (AllReady.cons rfl (fun K hK => ?_) AllReady.nil))
    · skip
      go_simp
      refine hK _ _ ?_
      clear hK K
      have RD93 := Lib.hid (RD92.out.alloc (.cells #[.int .i64 x91, .int .i64 x92, .int .i64 (-1), .int .i64 1001] 3))
      have BE93 := Lib.hid (BE92.out.alloc BE92.out.size (.cells #[.int .i64 x91, .int .i64 x92, .int .i64 (-1), .int .i64 1001] 3))
      have hR93 : w.heap.size < (u92.alloc (.cells #[.int .i64 x91, .int .i64 x92, .int .i64 (-1), .int .i64 1001] 3)).heap.size := RD93.out.lt
      have C493 := Lib.hid (four_new u92 x91 x92 hR92 ⟨by omega, by omega⟩ ⟨by omega, by omega⟩)
      have C693 := Lib.hid (C692.out.alloc (.cells #[.int .i64 x91, .int .i64 x92, .int .i64 (-1), .int .i64 1001] 3))
      generalize u92.alloc (.cells #[.int .i64 x91, .int .i64 x92, .int .i64 (-1), .int .i64 1001] 3) = u93 at RD93 BE93 hR93 C493 C693 ⊢
      refine wpAny_ready (rs := [8]) (by kernel_rfl) (by simp) (AllReady.cons rfl (fun K hK => ?_) AllReady.nil)
      go_simp
      refine (pick_any w.heap.size ((p2 + 1) + 1) 6 u93 RD93.out (by omega) (by omega) (by omega)).mono ?_
      rintro e u94 ⟨x94, ⟨hx94, hy94⟩, rfl, r94, g94⟩
      have RD94 := Lib.hid r94
      have BE94 := Lib.hid (below_R BE93.out g94)
      have hR94 : w.heap.size < u94.heap.size := r94.lt
      have C694 := Lib.hid (C693.out.grown g94)
      have C494 := Lib.hid (C493.out.grown g94)
      clear r94 g94
      go_simp
      refine hK _ _ ?_
      clear hK K
      obtain ⟨k6, rfl⟩ := Int.eq_ofNat_of_zero_le hx94
      have hk6 : k6 < 6 := by omega
      have hk6' : (k6 : Int) < 6 := by omega
      refine wpAny_take (i := 13) (v := ?v95) rfl (by kernel_rfl) (by kernel_rfl) (by kernel_rfl) (fun _ _ _ h => h) (Or.inl ⟨by kernel_rfl, ?h95⟩) ?_
      case h95 => intro w; go_simp; try with_reducible rfl
      go_simp
      refine wpAny_take (i := 9) (v := ?v96) rfl (by kernel_rfl) (by kernel_rfl) (by kernel_rfl) (fun _ _ _ h => h) (Or.inl ⟨by kernel_rfl, ?h96⟩) ?_
      case h96 => intro w; go_simp; try with_reducible rfl
      go_simp
      refine wpAny_ready (rs := [10]) (by kernel_rfl) (by simp) (AllReady.cons rfl (fun K hK => ?_) AllReady.nil)
      go_simp
      obtain ⟨i6, hi6, hc6⟩ := C694.out.2.2 k6 hk6
      have hi6' : (i6 : Int) < 4 := by omega
      go_simp
      refine hK _ _ ?_
      clear hK K hc6
      refine wpAny_take (i := 11) (v := ?v98) rfl (by kernel_rfl) (by kernel_rfl) (by kernel_rfl) (fun _ _ _ h => h) (Or.inl ⟨by kernel_rfl, ?h98⟩) ?_
      case h98 => intro w; go_simp; try with_reducible rfl
      go_simp
      refine wpAny_ready (rs := [12]) (by kernel_rfl) (by simp) (AllReady.cons rfl (fun K hK => ?_) AllReady.nil)
      go_simp
      obtain ⟨y, hyy, hy⟩ := C494.out.2.2 i6 hi6
      have HY := Lib.hid hyy
      clear hyy
      go_simp
      refine hK _ _ ?_
      clear hK K hy
      refine wpAny_take (i := 14) (v := ?v100) rfl (by kernel_rfl) (by kernel_rfl) (by kernel_rfl) (fun _ _ _ h => h) (Or.inl ⟨by kernel_rfl, ?h100⟩) ?_
      case h100 => intro w; go_simp; try with_reducible rfl
      go_simp
      refine wpAny_done (by kernel_rfl) ?_ _
      go_wp2
      go_ret2
      exact ⟨g, y, HG.out, HY.out, rfl, BE94.out⟩
    · skip
      go_simp
      refine (pick_any w.heap.size ((p2 + 1) + 1) 6 u92 RD92.out (by omega) (by omega) (by omega)).mono ?_
      rintro e u101 ⟨x101, ⟨hx101, hy101⟩, rfl, r101, g101⟩
      have RD101 := Lib.hid r101
      have BE101 := Lib.hid (below_R BE92.out g101)
      have hR101 : w.heap.size < u101.heap.size := r101.lt
      have C6101 := Lib.hid (C692.out.grown g101)
      clear r101 g101
      go_simp
      refine hK _ _ ?_
      clear hK K
      obtain ⟨k6, rfl⟩ := Int.eq_ofNat_of_zero_le hx101
      have hk6 : k6 < 6 := by omega
      have hk6' : (k6 : Int) < 6 := by omega
      refine wpAny_take (i := 13) (v := ?v102) rfl (by kernel_rfl) (by kernel_rfl) (by kernel_rfl) (fun _ _ _ h => h) (Or.inl ⟨by kernel_rfl, ?h102⟩) ?_
      case h102 => intro w; go_simp; try with_reducible rfl
      go_simp
      refine wpAny_take (i := 9) (v := ?v103) rfl (by kernel_rfl) (by kernel_rfl) (by kernel_rfl) (fun _ _ _ h => h) (Or.inl ⟨by kernel_rfl, ?h103⟩) ?_
      case h103 => intro w; go_simp; try with_reducible rfl
      go_simp
      refine wpAny_ready (rs := [5, 10]) (by kernel_rfl) (by simp) (AllReady.cons rfl (fun K hK => ?_) (AllReady.cons rfl (fun K hK => ?_) AllReady.nil))
      · skip
        go_simp
        refine hK _ _ ?_
        clear hK K
        have RD104 := Lib.hid (RD101.out.alloc (.cells #[.int .i64 x91, .int .i64 x92, .int .i64 (-1), .int .i64 1001] 3))
        have BE104 := Lib.hid (BE101.out.alloc BE101.out.size (.cells #[.int .i64 x91, .int .i64 x92, .int .i64 (-1), .int .i64 1001] 3))
        have hR104 : w.heap.size < (u101.alloc (.cells #[.int .i64 x91, .int .i64 x92, .int .i64 (-1), .int .i64 1001] 3)).heap.size := RD104.out.lt
        have C4104 := Lib.hid (four_new u101 x91 x92 hR101 ⟨by omega, by omega⟩ ⟨by omega, by omega⟩)
        have C6104 := Lib.hid (C6101.out.alloc (.cells #[.int .i64 x91, .int .i64 x92, .int .i64 (-1), .int .i64 1001] 3))
        generalize u101.alloc (.cells #[.int .i64 x91, .int .i64 x92, .int .i64 (-1), .int .i64 1001] 3) = u104 at RD104 BE104 hR104 C4104 C6104 ⊢
        refine wpAny_ready (rs := [10]) (by kernel_rfl) (by simp) (AllReady.cons rfl (fun K hK => ?_) AllReady.nil)
        go_simp
        obtain ⟨i6, hi6, hc6⟩ := C6104.out.2.2 k6 hk6
        have hi6' : (i6 : Int) < 4 := by omega
        go_simp
        refine hK _ _ ?_
        clear hK K hc6
        refine wpAny_take (i := 11) (v := ?v106) rfl (by kernel_rfl) (by kernel_rfl) (by kernel_rfl) (fun _ _ _ h => h) (Or.inl ⟨by kernel_rfl, ?h106⟩) ?_
        case h106 => intro w; go_simp; try with_reducible rfl
        go_simp
        refine wpAny_ready (rs := [12]) (by kernel_rfl) (by simp) (AllReady.cons rfl (fun K hK => ?_) AllReady.nil)
        go_simp
        obtain ⟨y, hyy, hy⟩ := C4104.out.2.2 i6 hi6
        have HY := Lib.hid hyy
        clear hyy
        go_simp
        refine hK _ _ ?_
        clear hK K hy
        refine wpAny_take (i := 14) (v := ?v108) rfl (by kernel_rfl) (by kernel_rfl) (by kernel_rfl) (fun _ _ _ h => h) (Or.inl ⟨by kernel_rfl, ?h108⟩) ?_
        case h108 => intro w; go_simp; try with_reducible rfl
        go_simp
        refine wpAny_done (by kernel_rfl) ?_ _
        go_wp2
        go_ret2
        exact ⟨g, y, HG.out, HY.out, rfl, BE104.out⟩
      · skip
        go_simp
        obtain ⟨i6, hi6, hc6⟩ := C6101.out.2.2 k6 hk6
        have hi6' : (i6 : Int) < 4 := by omega
        go_simp
        refine hK _ _ ?_
        clear hK K hc6
        refine wpAny_ready (rs := [5]) (by kernel_rfl) (by simp) (AllReady.cons rfl (fun K hK => ?_) AllReady.nil)
        go_simp
        refine hK _ _ ?_
        clear hK K
        have RD110 := Lib.hid (RD101.out.alloc (.cells #[.int .i64 x91, .int .i64 x92, .int .i64 (-1), .int .i64 1001] 3))
        have BE110 := Lib.hid (BE101.out.alloc BE101.out.size (.cells #[.int .i64 x91, .int .i64 x92, .int .i64 (-1), .int .i64 1001] 3))
        have hR110 : w.heap.size < (u101.alloc (.cells #[.int .i64 x91, .int .i64 x92, .int .i64 (-1), .int .i64 1001] 3)).heap.size := RD110.out.lt
        have C4110 := Lib.hid (four_new u101 x91 x92 hR101 ⟨by omega, by omega⟩ ⟨by omega, by omega⟩)
        have C6110 := Lib.hid (C6101.out.alloc (.cells #[.int .i64 x91, .int .i64 x92, .int .i64 (-1), .int .i64 1001] 3))
        generalize u101.alloc (.cells #[.int .i64 x91, .int .i64 x92, .int .i64 (-1), .int .i64 1001] 3) = u110 at RD110 BE110 hR110 C4110 C6110 ⊢
        refine wpAny_take (i := 11) (v := ?v111) rfl (by kernel_rfl) (by kernel_rfl) (by kernel_rfl) (fun _ _ _ h => h) (Or.inl ⟨by kernel_rfl, ?h111⟩) ?_
        case h111 => intro w; go_simp; try with_reducible rfl
        go_simp
        refine wpAny_ready (rs := [12]) (by kernel_rfl) (by simp) (AllReady.cons rfl (fun K hK => ?_) AllReady.nil)
        go_simp
        obtain ⟨y, hyy, hy⟩ := C4110.out.2.2 i6 hi6
        have HY := Lib.hid hyy
        clear hyy
        go_simp
        refine hK _ _ ?_
        clear hK K hy
        refine wpAny_take (i := 14) (v := ?v113) rfl (by kernel_rfl) (by kernel_rfl) (by kernel_rfl) (fun _ _ _ h => h) (Or.inl ⟨by kernel_rfl, ?h113⟩) ?_
        case h113 => intro w; go_simp; try with_reducible rfl
        go_simp
        refine wpAny_done (by kernel_rfl) ?_ _
        go_wp2
        go_ret2
        exact ⟨g, y, HG.out, HY.out, rfl, BE110.out⟩
end Go.Proofs.YtlaofbaglepkgaaDoor
