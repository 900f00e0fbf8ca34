/-
  What the laws of chapter 15 draw: lists of slots and of seeds. No condition.
-/
import Derived.Test.YtenihedpbklmlaaSeqDraw2
namespace Go.Proofs.Ytenihedpbklmlaa
open Go.RowKit

/-- A drawn list of at most nine numbers. -/
def DrawSL (w : World) (e : Ending) (w' : World) : Prop :=
  ∃ xs ad c, e = .returned (.slice (some ad) xs.length c) ∧ (xs.length ≤ 9 ∧ xs.length ≤ c ∧ c ≤ maxLen) ∧ Ints .i64 w' w'.heap.size (some ad) xs ∧ Below w.heap.size w w'
/-- The list that is being drawn. -/
def SlRel (w : World) (base m cap : Nat) (v : Option Addr) (wr : World) : Prop :=
  ∃ xs ad p', v = some ad ∧ Grow .i64 3 wr base (some ad) m cap xs ∧ Rd wr w.heap.size p' ∧ p' ≤ 1 + 2 * m ∧ Below w.heap.size w wr ∧ base ≤ wr.heap.size
set_option maxRecDepth 10000 in
theorem drawSL_of {w W : World} {base m cap : Nat} {ad : Addr} {xs : List Int} (hg : Grow .i64 3 W base (some ad) m cap xs) (hm : m ≤ 9) (hb : Below w.heap.size w W) : DrawSL w (.returned (.slice (some ad) m cap)) W := by
  obtain rfl : xs.length = m := hg.len
  exact ⟨xs, ad, cap, rfl, ⟨hm, hg.room⟩, hg.ints, hb⟩
set_option maxRecDepth 10000 in
set_option maxHeartbeats 4000000 in
theorem drawAccessRun_any (a : Option Addr) (c : Nat) (ds : List Int) (w : World) (hx : Ints .u8 w w.heap.size a ds) (hw : ∀ n ∈ ds, isByte n) (hc : ds.length ≤ c) (hcm : c ≤ maxLen) :
    Calls Try.prog 13 #[.slice a ds.length c] w (DrawSL w) := by
  have hl : ds.length ≤ maxLen := Nat.le_trans hc hcm
  go_enter Try.func13, Try.ntmps13
  go_wp2_with fail
  refine (open_any a c ds w hx hw hc hl hcm).mono ?_
  rintro e w1 ⟨rfl, r1, b1⟩
  have h1 : w.heap.size < w1.heap.size := r1.lt
  have R1 := Lib.hid r1
  have B1 := Lib.hid b1
  clear hx hw hc hcm hl r1 b1
  go_wp2_with fail
  refine (pick_any w.heap.size 0 9 _ (R1.out.alloc _) (by omega) (by omega) (by omega)).mono ?_
  rintro e w2 ⟨v1, ⟨hv1, hv1'⟩, rfl, r2, g2⟩
  have R2 := Lib.hid r2
  have L2 := Lib.hid ((Grow.lit0 .i64 3 w1 w1.heap.size (Nat.le_refl _)).grownR g2 h1)
  have B2 := Lib.hid (below_R (B1.out.alloc (Nat.le_of_lt h1) (.cells #[] 3)) g2)
  have hz2 : w1.heap.size ≤ w2.heap.size := by have := g2.size; simp at this; omega
  obtain ⟨q0, rfl⟩ := Int.eq_ofNat_of_zero_le hv1
  have hq0 : q0 ≤ 8 := by omega
  clear r2 g2 R1 B1 hv1 hv1'
  go_wp2
  go_loopw [4, 5] (fun s i wr => ∃ (q m : Nat) (v : Option Addr) (cap : Nat), q + m ≤ 8 ∧ i = .int .i64 q ∧ s = .slice v m cap ∧ SlRel w w1.heap.size m cap v wr) (fun _ i _ => (intOf i).toNat)
  case atStart => exact ⟨q0, 0, _, _, by omega, rfl, rfl, [], _, 0 + 1, rfl, L2.out, R2.out, by omega, B2.out, hz2⟩
  case round =>
    obtain ⟨q, m, v, cap, hqm, rfl, rfl, xs, ad, p', rfl, hgr, hrd, hp', hbl, hsz⟩ := hrel
    have HG := Lib.hid hgr
    have HR := Lib.hid hrd
    have HB := Lib.hid hbl
    clear hgr hrd hbl R2 L2 B2
    by_cases hq : 0 < q
    · have hqi : 0 < (q : Int) := by omega
      go_wp2_with fail
      refine (pick_any w.heap.size (p') 256 wr HR.out (by omega) (by omega) (by omega)).mono ?_
      rintro e w3 ⟨x, ⟨hx, hx'⟩, rfl, r3, g3⟩
      have R3 := Lib.hid r3
      have L3 := Lib.hid (HG.out.grownR g3 h1)
      have B3 := Lib.hid (below_R HB.out g3)
      have hz3 : w1.heap.size ≤ w3.heap.size := by have := g3.size; omega
      clear r3 g3
      have q8 : IntKind.i64.wrap (x * 8) = x * 8 := by rw [IntKind.wrap_i64]; omega
      have q8' : wrap64 (x * 8) = x * 8 := by unfold wrap64; omega
      go_wp2_with fail
      refine (pick_any w.heap.size (p' + 1) 8 w3 R3.out (by omega) (by omega) (by omega)).mono ?_
      rintro e w4 ⟨y, ⟨hy, hy'⟩, rfl, r4, g4⟩
      have R4 := Lib.hid r4
      have L4 := Lib.hid (L3.out.grownR g4 h1)
      have B4 := Lib.hid (below_R B3.out g4)
      have hz4 : w1.heap.size ≤ w4.heap.size := by have := g4.size; omega
      clear r4 g4
      have p8 : IntKind.i64.wrap (x * 8 + y) = x * 8 + y := by rw [IntKind.wrap_i64]; omega
      have p8' : wrap64 (x * 8 + y) = x * 8 + y := by unfold wrap64; omega
      go_wp2_with (at_builtin; refine wpList_append1 (.tmp 15) (.tmp 22) w1.heap.size (some ad) m cap xs ⟨w4.heap.size, 0, none⟩ (x * 8 + y) rfl rfl rfl rfl (L4.out.alloc _) (by simp) (by omega) (by simp; omega) ?_; intro a3 cap3 w9 hg3 hb3; have HG3 := Lib.hid hg3; have HB3 := Lib.hid hb3; clear hg3 hb3)
      go_roundw
      case rel =>
        obtain ⟨ad3, rfl⟩ := HG3.out.addr
        have hA := Lib.hid (B4.out.alloc (show w.heap.size ≤ w4.heap.size by omega) (.cells #[.int .i64 (x * 8 + y)] 3))
        exact ⟨q - 1, m + 1, some ad3, cap3, by omega, by go_num, rfl, _, ad3, p' + 1 + 1, rfl, HG3.out, (R4.out.alloc _).below HB3.out h1, by omega, hA.out.trans (HB3.out.mono (by omega)), by have := HB3.out.size; simp at this; omega⟩
      case measure => simp [intOf]; omega
    · obtain rfl : q = 0 := by omega
      by_cases hm1 : 1 < m
      · have hm1' : 1 < (m : Int) := by omega
        go_wp2_with fail
        refine (odd_any w.heap.size (p') 5 wr HR.out (by omega) (by omega) (by omega)).mono ?_
        rintro e w5 ⟨b5, rfl, r5, g5⟩
        have R5 := Lib.hid r5
        have L5 := Lib.hid (HG.out.grownR g5 h1)
        have B5 := Lib.hid (below_R HB.out g5)
        have hz5 : w1.heap.size ≤ w5.heap.size := by have := g5.size; omega
        clear r5 g5
        cases b5
        · skip
          by_cases hm0 : 0 < m
          · have hm0' : 0 < (m : Int) := by omega
            go_wp2_with fail
            refine (odd_any w.heap.size (p' + 1) 12 w5 R5.out (by omega) (by omega) (by omega)).mono ?_
            rintro e w6 ⟨b6, rfl, r6, g6⟩
            have R6 := Lib.hid r6
            have L6 := Lib.hid (L5.out.grownR g6 h1)
            have B6 := Lib.hid (below_R B5.out g6)
            have hz6 : w1.heap.size ≤ w6.heap.size := by have := g6.size; omega
            clear r6 g6
            cases b6
            · go_wp2
              go_ret
              exact drawSL_of L6.out (by omega) B6.out
            · skip
              go_wp2_with fail
              refine (pick_any w.heap.size (p' + 1 + 1) 2 _ (R6.out.alloc _) (by omega) (by omega) (by omega)).mono ?_
              rintro e w7 ⟨v7, ⟨hv7, hv7'⟩, rfl, r7, g7⟩
              have L7 := Lib.hid ((L6.out.alloc _).grownR g7 h1)
              have B7 := Lib.hid (below_R (B6.out.alloc (show w.heap.size ≤ w6.heap.size by omega) (.cells #[.int .i64 (-1), .int .i64 2048] 3)) g7)
              have c0 : w7.cell? ⟨w6.heap.size, 0, none⟩ = some (.int .i64 (-1)) := (World.cell?_of_block (g7.block _ (by simp) (fun e => by simp at e; omega))).trans (by simp)
              have c1 : w7.cell? ⟨w6.heap.size, 1, none⟩ = some (.int .i64 2048) := (World.cell?_of_block (g7.block _ (by simp) (fun e => by simp at e; omega))).trans (by simp)
              clear r7 g7
              obtain ⟨b, hb1, hb2⟩ := L7.out.addr0 (by simp)
              obtain rfl : ad = ⟨b, 0, none⟩ := by injection hb1
              obtain ⟨⟨u, hcc⟩, hf⟩ := grow_cell L7.out (show 0 < m by omega)
              clear hb1
              by_cases hz : v7 = 0
              · subst hz
                have L9 := Lib.hid (L7.out.set 0 (-1))
                have B9 := Lib.hid (B7.out.setCell (p := ⟨b, 0, none⟩) (by show w.heap.size ≤ b; omega) (.int .i64 (-1)))
                go_wp2
                go_ret
                exact drawSL_of L9.out (by omega) B9.out
              · obtain rfl : v7 = 1 := by omega
                have L9 := Lib.hid (L7.out.set 0 2048)
                have B9 := Lib.hid (B7.out.setCell (p := ⟨b, 0, none⟩) (by show w.heap.size ≤ b; omega) (.int .i64 2048))
                go_wp2
                go_ret
                exact drawSL_of L9.out (by omega) B9.out
          · exact absurd (show 0 < m by omega) hm0
        · obtain ⟨b, hb1, hb2⟩ := L5.out.addr0 (by simp)
          obtain rfl : ad = ⟨b, 0, none⟩ := by injection hb1
          obtain ⟨bb, ff, hbb, hb3, hb4, hb5, hb6, hb7⟩ := L5.out.row (show 0 < m by omega)
          obtain rfl : b = bb := by injection hbb with hbb; injection hbb
          have c0 := hb6.cell (i := 0) (by omega)
          rw [hb7 0 (by omega)] at c0
          obtain ⟨x0, hx0⟩ : ∃ x0, x0 = el xs 0 := ⟨_, rfl⟩
          rw [← hx0] at c0
          obtain ⟨⟨u1, hc1⟩, hf1⟩ := grow_cell L5.out (show 1 < m by omega)
          have L7 := Lib.hid (L5.out.set 1 x0)
          have B7 := Lib.hid (B5.out.setCell (p := ⟨b, 1, none⟩) (by show w.heap.size ≤ b; omega) (.int .i64 x0))
          have R7 := Lib.hid (show Rd (w5.setCell ⟨b, 1, none⟩ (.int .i64 x0)) w.heap.size (p' + 1) from R5.out.below (B := w1.heap.size) ((Below.refl _ _).setCell (p := ⟨b, 1, none⟩) hb3 _) h1)
          have hz7 : w1.heap.size ≤ (w5.setCell ⟨b, 1, none⟩ (.int .i64 x0)).heap.size := by rw [World.size_setCell]; omega
          clear hb1 hbb hb6 hb7 hx0
          go_wp2_with fail
          generalize w5.setCell ⟨b, 1, none⟩ (.int .i64 x0) = w7 at L7 B7 R7 hz7 ⊢
          clear c0 hf1 hc1 hb2 hb3 hb4 hb5 HG L5
          generalize (⟨b, 0, none⟩ : Addr) = ad at L7 ⊢
          by_cases hm0 : 0 < m
          · have hm0' : 0 < (m : Int) := by omega
            go_wp2_with fail
            refine (odd_any w.heap.size (p' + 1) 12 w7 R7.out (by omega) (by omega) (by omega)).mono ?_
            rintro e w8 ⟨b8, rfl, r8, g8⟩
            have R8 := Lib.hid r8
            have L8 := Lib.hid (L7.out.grownR g8 h1)
            have B8 := Lib.hid (below_R B7.out g8)
            have hz8 : w1.heap.size ≤ w8.heap.size := by have := g8.size; omega
            clear r8 g8
            cases b8
            · go_wp2
              go_ret
              exact drawSL_of L8.out (by omega) B8.out
            · skip
              go_wp2_with fail
              refine (pick_any w.heap.size (p' + 1 + 1) 2 _ (R8.out.alloc _) (by omega) (by omega) (by omega)).mono ?_
              rintro e w9 ⟨v9, ⟨hv9, hv9'⟩, rfl, r9, g9⟩
              have L9 := Lib.hid ((L8.out.alloc _).grownR g9 h1)
              have B9 := Lib.hid (below_R (B8.out.alloc (show w.heap.size ≤ w8.heap.size by omega) (.cells #[.int .i64 (-1), .int .i64 2048] 3)) g9)
              have c0 : w9.cell? ⟨w8.heap.size, 0, none⟩ = some (.int .i64 (-1)) := (World.cell?_of_block (g9.block _ (by simp) (fun e => by simp at e; omega))).trans (by simp)
              have c1 : w9.cell? ⟨w8.heap.size, 1, none⟩ = some (.int .i64 2048) := (World.cell?_of_block (g9.block _ (by simp) (fun e => by simp at e; omega))).trans (by simp)
              clear r9 g9
              obtain ⟨b, hb1, hb2⟩ := L9.out.addr0 (by simp)
              obtain rfl : ad = ⟨b, 0, none⟩ := by injection hb1
              obtain ⟨⟨u, hcc⟩, hf⟩ := grow_cell L9.out (show 0 < m by omega)
              clear hb1
              by_cases hz : v9 = 0
              · subst hz
                have L9 := Lib.hid (L9.out.set 0 (-1))
                have B9 := Lib.hid (B9.out.setCell (p := ⟨b, 0, none⟩) (by show w.heap.size ≤ b; omega) (.int .i64 (-1)))
                go_wp2
                go_ret
                exact drawSL_of L9.out (by omega) B9.out
              · obtain rfl : v9 = 1 := by omega
                have L9 := Lib.hid (L9.out.set 0 2048)
                have B9 := Lib.hid (B9.out.setCell (p := ⟨b, 0, none⟩) (by show w.heap.size ≤ b; omega) (.int .i64 2048))
                go_wp2
                go_ret
                exact drawSL_of L9.out (by omega) B9.out
          · exact absurd (show 0 < m by omega) hm0
      · have hm1' : ¬ 1 < (m : Int) := by omega
        by_cases hm0 : 0 < m
        · have hm0' : 0 < (m : Int) := by omega
          go_wp2_with fail
          refine (odd_any w.heap.size (p') 12 wr HR.out (by omega) (by omega) (by omega)).mono ?_
          rintro e w6 ⟨b6, rfl, r6, g6⟩
          have R6 := Lib.hid r6
          have L6 := Lib.hid (HG.out.grownR g6 h1)
          have B6 := Lib.hid (below_R HB.out g6)
          have hz6 : w1.heap.size ≤ w6.heap.size := by have := g6.size; omega
          clear r6 g6
          cases b6
          · go_wp2
            go_ret
            exact drawSL_of L6.out (by omega) B6.out
          · skip
            go_wp2_with fail
            refine (pick_any w.heap.size (p' + 1) 2 _ (R6.out.alloc _) (by omega) (by omega) (by omega)).mono ?_
            rintro e w7 ⟨v7, ⟨hv7, hv7'⟩, rfl, r7, g7⟩
            have L7 := Lib.hid ((L6.out.alloc _).grownR g7 h1)
            have B7 := Lib.hid (below_R (B6.out.alloc (show w.heap.size ≤ w6.heap.size by omega) (.cells #[.int .i64 (-1), .int .i64 2048] 3)) g7)
            have c0 : w7.cell? ⟨w6.heap.size, 0, none⟩ = some (.int .i64 (-1)) := (World.cell?_of_block (g7.block _ (by simp) (fun e => by simp at e; omega))).trans (by simp)
            have c1 : w7.cell? ⟨w6.heap.size, 1, none⟩ = some (.int .i64 2048) := (World.cell?_of_block (g7.block _ (by simp) (fun e => by simp at e; omega))).trans (by simp)
            clear r7 g7
            obtain ⟨b, hb1, hb2⟩ := L7.out.addr0 (by simp)
            obtain rfl : ad = ⟨b, 0, none⟩ := by injection hb1
            obtain ⟨⟨u, hcc⟩, hf⟩ := grow_cell L7.out (show 0 < m by omega)
            clear hb1
            by_cases hz : v7 = 0
            · subst hz
              have L9 := Lib.hid (L7.out.set 0 (-1))
              have B9 := Lib.hid (B7.out.setCell (p := ⟨b, 0, none⟩) (by show w.heap.size ≤ b; omega) (.int .i64 (-1)))
              go_wp2
              go_ret
              exact drawSL_of L9.out (by omega) B9.out
            · obtain rfl : v7 = 1 := by omega
              have L9 := Lib.hid (L7.out.set 0 2048)
              have B9 := Lib.hid (B7.out.setCell (p := ⟨b, 0, none⟩) (by show w.heap.size ≤ b; omega) (.int .i64 2048))
              go_wp2
              go_ret
              exact drawSL_of L9.out (by omega) B9.out
        · have hm0' : ¬ 0 < (m : Int) := by omega
          go_wp2
          go_ret
          exact drawSL_of HG.out (by omega) HB.out
end Go.Proofs.Ytenihedpbklmlaa
