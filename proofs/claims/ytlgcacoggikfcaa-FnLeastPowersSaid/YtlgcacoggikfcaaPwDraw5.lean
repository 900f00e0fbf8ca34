/-
  What the draws of powers, and of links with powers, answer. No condition but that the reader's position is below 2^37.
-/
import Derived.Test.YtlgcacoggikfcaaPwDraw4
import Derived.Test.YtlgcacoggikfcaaPw8
namespace Go.Proofs.Ytlgcacoggikfcaa
open Go.RowKit

/-- Drawn powers: at most most + 1; only the reader was written besides. -/
def PowersP (R0 p : Nat) (w : World) (e : Ending) (w' : World) : Prop :=
  ∃ v c P p', e = .returned (.slice v P.length c) ∧ Grow .i64 3 w' w.heap.size v P.length c P ∧ Rd w' R0 p' ∧ p' ≤ p + 100 ∧ w.grownBy w' (some R0)
def Four4 (W : World) (R0 b : Nat) : Prop := b < W.heap.size ∧ b ≠ R0 ∧ ∀ k, k < 4 → ∃ y : Int, W.cell? ⟨b, k, none⟩ = some (.int .i64 y)
def Sev4 (W : World) (R0 b : Nat) : Prop := b < W.heap.size ∧ b ≠ R0 ∧ ∀ k, k < 7 → ∃ i : Nat, i < 4 ∧ W.cell? ⟨b, k, none⟩ = some (.int .i64 (i : Int))
section
variable {W W' : World} {R0 b : Nat}
theorem Sev4.grown (h : Sev4 W R0 b) (g : W.grownBy W' (some R0)) : Sev4 W' R0 b :=
  ⟨Nat.lt_of_lt_of_le h.1 g.size, h.2.1, fun k hk => by rw [World.cell?_of_block (g.block b h.1 (fun e => h.2.1 (by injection e)))]; exact h.2.2 k hk⟩
theorem Four4.grown (h : Four4 W R0 b) (g : W.grownBy W' (some R0)) : Four4 W' R0 b :=
  ⟨Nat.lt_of_lt_of_le h.1 g.size, h.2.1, fun k hk => by rw [World.cell?_of_block (g.block b h.1 (fun e => h.2.1 (by injection e)))]; exact h.2.2 k hk⟩
theorem Four4.alloc (h : Four4 W R0 b) (o : Obj) : Four4 (W.alloc o) R0 b := h.grown (World.grownBy_alloc W o (some R0))
end
theorem sev4_new (W : World) {R0 : Nat} (hR : R0 < W.heap.size) : Sev4 (W.alloc (.cells #[.int .i64 0, .int .i64 0, .int .i64 0, .int .i64 1, .int .i64 1, .int .i64 2, .int .i64 3] 3)) R0 W.heap.size :=
  ⟨by simp, by omega, fun k hk => by
    rw [cell_of_row _ _ _ _ _ _ (heap_alloc_last W _)]
    match k, hk with
    | 0, _ | 1, _ | 2, _ => exact ⟨0, by omega, rfl⟩
    | 3, _ | 4, _ => exact ⟨1, by omega, rfl⟩
    | 5, _ => exact ⟨2, by omega, rfl⟩
    | 6, _ => exact ⟨3, by omega, rfl⟩
    | (m + 7), h => exact absurd h (by omega)⟩
theorem four4_new (W : World) (x y : Int) {R0 : Nat} (hR : R0 < W.heap.size) : Four4 (W.alloc (.cells #[.int .i64 x, .int .i64 y, .int .i64 10000, .int .i64 0] 3)) R0 W.heap.size :=
  ⟨by simp, by omega, fun k hk => by
    rw [cell_of_row _ _ _ _ _ _ (heap_alloc_last W _)]
    match k, hk with
    | 0, _ => exact ⟨x, rfl⟩
    | 1, _ => exact ⟨y, rfl⟩
    | 2, _ => exact ⟨10000, rfl⟩
    | 3, _ => exact ⟨0, rfl⟩
    | (m + 4), h => exact absurd h (by omega)⟩
set_option maxHeartbeats 4000000 in
theorem powers_any (R0 p : Nat) (a : Option Addr) (n c : Nat) (N T : Int) (w : World) (hr : Rd w R0 p) (hp : p ≤ 137438953472) (hn : n ≤ 1048576) : Calls Try.prog 41 #[.pointer (some ⟨R0, 0, none⟩), .agg #[.slice a n c, .int .i64 N, .int .i64 T]] w fun e w' => ∃ v c P p', e = .returned (.slice v P.length c) ∧ Grow .i64 3 w' w.heap.size v P.length c P ∧ Rd w' R0 p' ∧ p' ≤ p + 3 * n + 3 ∧ w.grownBy w' (some R0) := by
  have X0 := Lib.hid (lbox_new w a n c N T 25)
  have hR0 := hr.lt
  have D0 := Lib.hid ((hr.alloc (.cells #[.slice a n c, .int .i64 N, .int .i64 T] 25)).alloc (.cells #[] 3))
  have G0 := Lib.hid (grown_alloc (World.grownBy_alloc w (.cells #[.slice a n c, .int .i64 N, .int .i64 T] 25) (some R0)) (.cells #[] 3))
  have l0 := Grow.lit0 .i64 3 (w.alloc (.cells #[.slice a n c, .int .i64 N, .int .i64 T] 25)) (w.heap.size + 1) (by simp)
  have X1 := Lib.hid (X0.out.next (alloc_belowX (w.alloc (.cells #[.slice a n c, .int .i64 N, .int .i64 T] 25)) (.cells #[] 3)))
  have e1 : (w.alloc (.cells #[.slice a n c, .int .i64 N, .int .i64 T] 25)).heap.size = w.heap.size + 1 := by simp
  rw [e1] at l0
  have L0 := Lib.hid l0
  clear hr X0 e1 l0
  go_enter Try.func41, Try.ntmps41
  go_wp2_with fail
  generalize (w.alloc (.cells #[.slice a n c, .int .i64 N, .int .i64 T] 25)).alloc (.cells #[] 3) = W0 at *
  go_loopw [5, 6] (fun s x wr => ∃ (j : Nat) (v : Option Addr) (cv : Nat) (P : List Int) (p' : Nat), j ≤ n ∧ x = .int .i64 j ∧ s = .slice v j cv ∧ Grow .i64 3 wr (w.heap.size + 1) v j cv P ∧ Rd wr R0 p' ∧ p' ≤ p + 3 * j ∧ w.grownBy wr (some R0) ∧ wr.cell? ⟨w.heap.size, 0, none⟩ = some (.slice a n c) ∧ w.heap.size < wr.heap.size) (fun _ x _ => n - (intOf x).toNat)
  case atStart => exact ⟨0, _, _, _, p, Nat.zero_le _, rfl, rfl, L0.out, D0.out, by omega, G0.out, X1.out.g, X1.out.lt⟩
  case round =>
    obtain ⟨j, v, cv, P, p1, hj, rfl, rfl, hl, hd, hp1, hg, hbg, hlt0⟩ := hrel
    have L := Lib.hid hl
    have D := Lib.hid hd
    have G := Lib.hid hg
    clear hl hd hg L0 D0 G0 X1
    by_cases hlt : j < n
    · go_wp2_with fail
      refine (pick_any R0 p1 200 wr D.out (by omega) (by omega) (by omega)).mono ?_
      rintro e w2 ⟨y1, _, rfl, r2, g2⟩
      have L2 := Lib.hid (L.out.grownR g2 (by omega))
      have D2 := Lib.hid r2
      have G2 := Lib.hid (grown_trans G.out g2)
      have b2 := (World.cell?_of_block (g2.block w.heap.size hlt0 (fun e => by injection e; omega)) : w2.cell? ⟨w.heap.size, 0, none⟩ = _).trans hbg
      have s2 := g2.size
      clear r2 g2 L D G hbg
      go_wp2_with fail
      refine (pick_any R0 (p1 + 1) 9 w2 D2.out (by omega) (by omega) (by omega)).mono ?_
      rintro e w3 ⟨y2, _, rfl, r3, g3⟩
      have L3 := Lib.hid (L2.out.grownR g3 (by omega))
      have D3 := Lib.hid r3
      have G3 := Lib.hid (grown_trans G2.out g3)
      have b3 := (World.cell?_of_block (g3.block w.heap.size (by omega) (fun e => by injection e; omega)) : w3.cell? ⟨w.heap.size, 0, none⟩ = _).trans b2
      have s3 := g3.size
      have hR3 : R0 < w3.heap.size := r3.lt
      clear r3 g3 L2 D2 G2 b2
      have F4 := Lib.hid (four4_new w3 y1 y2 hR3)
      have D4 := Lib.hid ((D3.out.alloc (.cells #[.int .i64 y1, .int .i64 y2, .int .i64 10000, .int .i64 0] 3)).alloc (.cells #[.int .i64 0, .int .i64 0, .int .i64 0, .int .i64 1, .int .i64 1, .int .i64 2, .int .i64 3] 3))
      have s3' : (w3.alloc (.cells #[.int .i64 y1, .int .i64 y2, .int .i64 10000, .int .i64 0] 3)).heap.size = w3.heap.size + 1 := by simp
      have S5 := sev4_new (w3.alloc (.cells #[.int .i64 y1, .int .i64 y2, .int .i64 10000, .int .i64 0] 3)) (R0 := R0) (by omega)
      rw [s3'] at S5
      have S5 := Lib.hid S5
      have F5 := Lib.hid (F4.out.alloc (.cells #[.int .i64 0, .int .i64 0, .int .i64 0, .int .i64 1, .int .i64 1, .int .i64 2, .int .i64 3] 3))
      have L5 := Lib.hid ((L3.out.alloc (.cells #[.int .i64 y1, .int .i64 y2, .int .i64 10000, .int .i64 0] 3)).alloc (.cells #[.int .i64 0, .int .i64 0, .int .i64 0, .int .i64 1, .int .i64 1, .int .i64 2, .int .i64 3] 3))
      have G5 := Lib.hid (grown_alloc (grown_alloc G3.out (.cells #[.int .i64 y1, .int .i64 y2, .int .i64 10000, .int .i64 0] 3)) (.cells #[.int .i64 0, .int .i64 0, .int .i64 0, .int .i64 1, .int .i64 1, .int .i64 2, .int .i64 3] 3))
      have b5 : ((w3.alloc (.cells #[.int .i64 y1, .int .i64 y2, .int .i64 10000, .int .i64 0] 3)).alloc (.cells #[.int .i64 0, .int .i64 0, .int .i64 0, .int .i64 1, .int .i64 1, .int .i64 2, .int .i64 3] 3)).cell? ⟨w.heap.size, 0, none⟩ = some (.slice a n c) := cell_next (cell_next b3 (alloc_belowX _ _)) (alloc_belowX _ _)
      have s5 : w3.heap.size + 2 ≤ ((w3.alloc (.cells #[.int .i64 y1, .int .i64 y2, .int .i64 10000, .int .i64 0] 3)).alloc (.cells #[.int .i64 0, .int .i64 0, .int .i64 0, .int .i64 1, .int .i64 1, .int .i64 2, .int .i64 3] 3)).heap.size := by simp
      clear F4 L3 D3 G3 b3 s3'
      go_wp2_with fail
      generalize (w3.alloc (.cells #[.int .i64 y1, .int .i64 y2, .int .i64 10000, .int .i64 0] 3)).alloc (.cells #[.int .i64 0, .int .i64 0, .int .i64 0, .int .i64 1, .int .i64 1, .int .i64 2, .int .i64 3] 3) = w5 at *
      refine (pick_any R0 (p1 + 1 + 1) 7 w5 D4.out (by omega) (by omega) (by omega)).mono ?_
      rintro e w6 ⟨y3, ⟨hy3, hy3'⟩, rfl, r6, g6⟩
      obtain ⟨k, rfl⟩ := Int.eq_ofNat_of_zero_le hy3
      have hk : k < 7 := by omega
      obtain ⟨i, hi, hc6⟩ := (S5.out.grown g6).2.2 k hk
      obtain ⟨y, hc7⟩ := (F5.out.grown g6).2.2 i hi
      have L6 := Lib.hid (L5.out.grownR g6 (by omega))
      have D6 := Lib.hid r6
      have G6 := Lib.hid (grown_trans G5.out g6)
      have b6 := (World.cell?_of_block (g6.block w.heap.size (by omega) (fun e => by injection e; omega)) : w6.cell? ⟨w.heap.size, 0, none⟩ = _).trans b5
      have s6 := g6.size
      have sA : w6.heap.size + 1 = (w6.alloc (.cells #[.int .i64 y] 3)).heap.size := by simp
      clear r6 g6 L5 D4 G5 S5 F5 b5 hy3
      go_wp2_with (at_builtin; refine wpList_append1 (.tmp 15) (.tmp 28) (w.heap.size + 1) v j cv P ⟨w6.heap.size, 0, none⟩ y rfl rfl rfl rfl (L6.out.alloc _) (by simp) (by omega) (by simp; omega) ?_; intro a3 cap3 w9 hg3 hb3; have LX := Lib.hid hg3; have DX := Lib.hid ((D6.out.alloc _).below hb3 (by omega)); have GX := Lib.hid (grown_below (grown_alloc G6.out _) hb3 (Nat.le_succ _)); have bX := (hb3.cell (p := ⟨w.heap.size, 0, none⟩) (Nat.lt_succ_self _)).trans (cell_next b6 (alloc_belowX _ _)); have sX := hb3.size; clear hg3 hb3)
      go_roundw
      case rel => exact ⟨j + 1, a3, cap3, _, _, by omega, by go_num, rfl, LX.out, DX.out, by omega, GX.out, bX, by omega⟩
      case measure => simp [intOf]; omega
    · obtain rfl : n = j := by omega
      go_wp2_with fail
      refine (odd_any R0 p1 14 wr D.out (by omega) (by omega) (by omega)).mono ?_
      rintro e w2 ⟨bo, rfl, r2, g2⟩
      have L2 := Lib.hid (L.out.grownR g2 (by omega))
      have D2 := Lib.hid r2
      have G2 := Lib.hid (grown_trans G.out g2)
      have s2 := g2.size
      clear r2 g2 L D G
      cases bo
      · skip
        by_cases h0 : n = 0
        · subst h0
          obtain rfl : P = [] := List.eq_nil_of_length_eq_zero L2.out.len
          clear hbg
          go_wp2
          go_ret
          exact ⟨_, _, [], _, rfl, L2.out.base_le (Nat.le_succ _), D2.out, by omega, G2.out⟩
        · have z0 : (0 : Int) < ((n : Nat) : Int) := by omega
          go_wp2_with fail
          refine (odd_any R0 (p1 + 1) 14 w2 D2.out (by omega) (by omega) (by omega)).mono ?_
          rintro e w5 ⟨b5, rfl, r5, g5⟩
          have L5 := Lib.hid (L2.out.grownR g5 (by omega))
          have D5 := Lib.hid r5
          have G5 := Lib.hid (grown_trans G2.out g5)
          have s5 := g5.size
          clear r5 g5
          cases b5
          · skip
            have hl := L5.out.len
            clear hbg
            go_wp2
            go_ret
            have LL := (L5.out.base_le (Nat.le_succ _))
            rw [← hl] at LL ⊢
            exact ⟨v, cv, P, _, rfl, LL, D5.out, by omega, G5.out⟩
          · have D6 := Lib.hid (D5.out.alloc (.cells #[.int .i64 (-1), .int .i64 10001] 3))
            have L6 := Lib.hid (L5.out.alloc (.cells #[.int .i64 (-1), .int .i64 10001] 3))
            have G6 := Lib.hid (grown_alloc G5.out (.cells #[.int .i64 (-1), .int .i64 10001] 3))
            have h5 : R0 < w5.heap.size := D5.out.lt
            go_wp2_with fail
            refine (pick_any R0 (p1 + 1 + 1) 2 _ D6.out (by omega) (by omega) (by omega)).mono ?_
            rintro e w7 ⟨k, ⟨hk, hk'⟩, rfl, r7, g7⟩
            have L7 := Lib.hid (L6.out.grownR g7 (by omega))
            have D7 := Lib.hid r7
            have G7 := Lib.hid (grown_trans G6.out g7)
            have hlit : ∀ i v, (#[.int .i64 (-1), .int .i64 10001] : Array Value)[i]? = some v → w7.cell? ⟨w5.heap.size, i, none⟩ = some v := fun i v hi => by
              rw [World.cell?_of_block (g7.block w5.heap.size (by simp) (fun e => by injection e; omega)), cell_of_row _ _ _ _ _ _ (heap_alloc_last _ _)]
              exact hi
            have hc0 := hlit 0 _ rfl
            have hc1 := hlit 1 _ rfl
            have s7 := g7.size
            obtain ⟨gb, f, rfl, hgb, _, hcp, hrow, _⟩ := L7.out.row (by omega)
            have st0 := hrow.cell (i := 0) (by omega)
            have sf0 := hrow.frozen 0
            clear r7 g7 hlit hrow L6 D6 G6 L5 D5 G5
            have hk2 : k = 0 ∨ k = 1 := by omega
            rcases hk2 with rfl | rfl
            · have L8 := Lib.hid (L7.out.set 0 (-1))
              have hs8 := Lib.grownBy_setCell w7 gb 0 (.int .i64 (-1))
              have D8 := Lib.hid (D7.out.below (⟨hs8.os, hs8.tape, hs8.output, hs8.size, fun j hj => hs8.block j (by have := G7.out.size; omega) (fun e => by injection e; omega)⟩ : Below (w.heap.size + 1) w7 _) (by omega))
              have G8 := Lib.hid (grown_below G7.out (⟨hs8.os, hs8.tape, hs8.output, hs8.size, fun j hj => hs8.block j (by have := G7.out.size; omega) (fun e => by injection e; omega)⟩ : Below w.heap.size w7 _) (Nat.le_refl _))
              clear hs8
              have hl := L8.out.len
              clear hbg
              go_wp2
              go_ret
              have LL := (L8.out.base_le (Nat.le_succ _))
              rw [← hl] at LL ⊢
              exact ⟨_, cv, _, _, rfl, LL, D8.out, by omega, G8.out⟩
            · have L8 := Lib.hid (L7.out.set 0 10001)
              have hs8 := Lib.grownBy_setCell w7 gb 0 (.int .i64 10001)
              have D8 := Lib.hid (D7.out.below (⟨hs8.os, hs8.tape, hs8.output, hs8.size, fun j hj => hs8.block j (by have := G7.out.size; omega) (fun e => by injection e; omega)⟩ : Below (w.heap.size + 1) w7 _) (by omega))
              have G8 := Lib.hid (grown_below G7.out (⟨hs8.os, hs8.tape, hs8.output, hs8.size, fun j hj => hs8.block j (by have := G7.out.size; omega) (fun e => by injection e; omega)⟩ : Below w.heap.size w7 _) (Nat.le_refl _))
              clear hs8
              have hl := L8.out.len
              clear hbg
              go_wp2
              go_ret
              have LL := (L8.out.base_le (Nat.le_succ _))
              rw [← hl] at LL ⊢
              exact ⟨_, cv, _, _, rfl, LL, D8.out, by omega, G8.out⟩
      · have sA : w2.heap.size + 1 = (w2.alloc (.cells #[.int .i64 1] 3)).heap.size := by simp
        have HApp := Lib.hid (L2.out.alloc (.cells #[.int .i64 1] 3))
        go_wp2_with (at_builtin; refine wpList_append1 (.tmp 32) (.tmp 33) (w.heap.size + 1) v n cv P ⟨w2.heap.size, 0, none⟩ 1 rfl rfl rfl rfl HApp.out (by simp) (by omega) (by omega) ?_; intro a3 cap3 w4 hg3 hb3; have L4 := Lib.hid hg3; have D4 := Lib.hid ((D2.out.alloc _).below hb3 (by omega)); have G4 := Lib.hid (grown_below (grown_alloc G2.out _) hb3 (Nat.le_succ _)); have s4 := hb3.size; clear hg3 hb3)
        · have z0 : (0 : Int) < ((n + 1 : Nat) : Int) := by omega
          go_wp2_with fail
          refine (odd_any R0 (p1 + 1) 14 w4 D4.out (by omega) (by omega) (by omega)).mono ?_
          rintro e w5 ⟨b5, rfl, r5, g5⟩
          have L5 := Lib.hid (L4.out.grownR g5 (by omega))
          have D5 := Lib.hid r5
          have G5 := Lib.hid (grown_trans G4.out g5)
          have s5 := g5.size
          clear r5 g5
          cases b5
          · skip
            have hl := L5.out.len
            clear hbg
            go_wp2
            go_ret
            have LL := (L5.out.base_le (Nat.le_succ _))
            rw [← hl] at LL ⊢
            exact ⟨a3, cap3, (P ++ [1]), _, rfl, LL, D5.out, by omega, G5.out⟩
          · have D6 := Lib.hid (D5.out.alloc (.cells #[.int .i64 (-1), .int .i64 10001] 3))
            have L6 := Lib.hid (L5.out.alloc (.cells #[.int .i64 (-1), .int .i64 10001] 3))
            have G6 := Lib.hid (grown_alloc G5.out (.cells #[.int .i64 (-1), .int .i64 10001] 3))
            have h5 : R0 < w5.heap.size := D5.out.lt
            go_wp2_with fail
            refine (pick_any R0 (p1 + 1 + 1) 2 _ D6.out (by omega) (by omega) (by omega)).mono ?_
            rintro e w7 ⟨k, ⟨hk, hk'⟩, rfl, r7, g7⟩
            have L7 := Lib.hid (L6.out.grownR g7 (by omega))
            have D7 := Lib.hid r7
            have G7 := Lib.hid (grown_trans G6.out g7)
            have hlit : ∀ i v, (#[.int .i64 (-1), .int .i64 10001] : Array Value)[i]? = some v → w7.cell? ⟨w5.heap.size, i, none⟩ = some v := fun i v hi => by
              rw [World.cell?_of_block (g7.block w5.heap.size (by simp) (fun e => by injection e; omega)), cell_of_row _ _ _ _ _ _ (heap_alloc_last _ _)]
              exact hi
            have hc0 := hlit 0 _ rfl
            have hc1 := hlit 1 _ rfl
            have s7 := g7.size
            obtain ⟨gb, f, rfl, hgb, _, hcp, hrow, _⟩ := L7.out.row (by omega)
            have st0 := hrow.cell (i := 0) (by omega)
            have sf0 := hrow.frozen 0
            clear r7 g7 hlit hrow L6 D6 G6 L5 D5 G5
            have hk2 : k = 0 ∨ k = 1 := by omega
            rcases hk2 with rfl | rfl
            · have L8 := Lib.hid (L7.out.set 0 (-1))
              have hs8 := Lib.grownBy_setCell w7 gb 0 (.int .i64 (-1))
              have D8 := Lib.hid (D7.out.below (⟨hs8.os, hs8.tape, hs8.output, hs8.size, fun j hj => hs8.block j (by have := G7.out.size; omega) (fun e => by injection e; omega)⟩ : Below (w.heap.size + 1) w7 _) (by omega))
              have G8 := Lib.hid (grown_below G7.out (⟨hs8.os, hs8.tape, hs8.output, hs8.size, fun j hj => hs8.block j (by have := G7.out.size; omega) (fun e => by injection e; omega)⟩ : Below w.heap.size w7 _) (Nat.le_refl _))
              clear hs8
              have hl := L8.out.len
              clear hbg
              go_wp2
              go_ret
              have LL := (L8.out.base_le (Nat.le_succ _))
              rw [← hl] at LL ⊢
              exact ⟨_, cap3, _, _, rfl, LL, D8.out, by omega, G8.out⟩
            · have L8 := Lib.hid (L7.out.set 0 10001)
              have hs8 := Lib.grownBy_setCell w7 gb 0 (.int .i64 10001)
              have D8 := Lib.hid (D7.out.below (⟨hs8.os, hs8.tape, hs8.output, hs8.size, fun j hj => hs8.block j (by have := G7.out.size; omega) (fun e => by injection e; omega)⟩ : Below (w.heap.size + 1) w7 _) (by omega))
              have G8 := Lib.hid (grown_below G7.out (⟨hs8.os, hs8.tape, hs8.output, hs8.size, fun j hj => hs8.block j (by have := G7.out.size; omega) (fun e => by injection e; omega)⟩ : Below w.heap.size w7 _) (Nat.le_refl _))
              clear hs8
              have hl := L8.out.len
              clear hbg
              go_wp2
              go_ret
              have LL := (L8.out.base_le (Nat.le_succ _))
              rw [← hl] at LL ⊢
              exact ⟨_, cap3, _, _, rfl, LL, D8.out, by omega, G8.out⟩
end Go.Proofs.Ytlgcacoggikfcaa
