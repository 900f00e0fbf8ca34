/-
  The draws of chapter 17, walked. Condition: bytes that can be read.
-/
import Derived.Test.YtibgpgifdjefnaaSkDraw2
import Derived.Test.YtibgpgifdjefnaaSk3
namespace Go.Proofs.Ytibgpgifdjefnaa
open Go.RowKit

/-- What the laws draw: a table. -/
def DrawTbP (w : World) (e : Ending) (w' : World) : Prop :=
  ∃ a c R, e = .returned (.slice a R.length c) ∧ (R.length ≤ 9 ∧ ∀ i, i < R.length → (rwB R i).length ≤ 9) ∧ TbL w' w'.heap.size a R ∧ Below w.heap.size w w'
theorem rowCap {R : List (List Bool)} (h : R.length ≤ 9) : R.length ≤ maxLen := by unfold maxLen; omega
set_option maxRecDepth 10000 in
set_option maxHeartbeats 1000000 in
theorem drawConflictsValid_any (a : Option Addr) (c : Nat) (ds : List Int) (w : World) (hx : Ints .u8 w w.heap.size a ds) (hw : ∀ n ∈ ds, isByte n) (hc : ds.length ≤ c) (hcm : c ≤ maxLen) :
    Calls Try.prog 10 #[.slice a ds.length c] w (DrawTbP w) := by
  have hl : ds.length ≤ maxLen := Nat.le_trans hc hcm
  go_enter Try.func10, Try.ntmps10
  go_wp2_with fail
  refine (open_any a c ds w hx hw hc hl hcm).mono ?_
  rintro e w1 ⟨rfl, r1, b1⟩
  have R1 := Lib.hid r1
  have B1 := Lib.hid b1
  clear hx hw hc hcm hl r1 b1
  go_wp2_with fail
  refine (l20Conflicts_any w.heap.size 0 6 2 w1 R1.out (by omega) (by omega) (by omega)).mono ?_
  rintro e w2 ⟨a2, c2, R, p2, rfl, h9, ht, _, _, g2⟩
  have HE := Lib.hid (show DrawTbP w (.returned (.slice a2 R.length c2)) w2 from ⟨a2, c2, R, rfl, h9, ht.tbl, below_R B1.out g2⟩)
  clear h9 ht g2
  go_wp2
  go_ret
  exact HE.out
set_option maxRecDepth 10000 in
set_option maxHeartbeats 1000000 in
theorem drawGreedySlots_any (a : Option Addr) (c : Nat) (ds : List Int) (w : World) (hx : Ints .u8 w w.heap.size a ds) (hw : ∀ n ∈ ds, isByte n) (hc : ds.length ≤ c) (hcm : c ≤ maxLen) :
    Calls Try.prog 17 #[.slice a ds.length c] w (DrawTbP w) := by
  have hl : ds.length ≤ maxLen := Nat.le_trans hc hcm
  go_enter Try.func17, Try.ntmps17
  go_wp2_with fail
  refine (open_any a c ds w hx hw hc hl hcm).mono ?_
  rintro e w1 ⟨rfl, r1, b1⟩
  have R1 := Lib.hid r1
  have B1 := Lib.hid b1
  clear hx hw hc hcm hl r1 b1
  go_wp2_with fail
  refine (l20Conflicts_any w.heap.size 0 9 9 w1 R1.out (by omega) (by omega) (by omega)).mono ?_
  rintro e w2 ⟨a2, c2, R, p2, rfl, h9, ht, _, _, g2⟩
  have HE := Lib.hid (show DrawTbP w (.returned (.slice a2 R.length c2)) w2 from ⟨a2, c2, R, rfl, h9, ht.tbl, below_R B1.out g2⟩)
  clear h9 ht g2
  go_wp2
  go_ret
  exact HE.out
/-- A drawn table and slots. -/
def DrawSvP (w : World) (e : Ending) (w' : World) : Prop :=
  ∃ a c R v c' S, e = .returned (.tuple #[.slice a R.length c, .slice v S.length c']) ∧ (R.length ≤ 9 ∧ ∀ i, i < R.length → (rwB R i).length ≤ 9) ∧ S.length ≤ 9 ∧ TbL w' w'.heap.size a R ∧ Ints .i64 w' w'.heap.size v S ∧ Below w.heap.size w w'
theorem grL_len {R : List (List Bool)} : (grL R).length ≤ R.length := by
  cases h : tbB R
  · rw [grL_no h]; exact Nat.zero_le _
  · rw [grL_yes h, iL_len, gr_len]; exact Nat.le_refl _
/-- A list in a row of its own, from block A on. -/
def OwnF (W : World) (A : Nat) (v : Option Addr) (S : List Int) : Prop := S ≠ [] → ∃ b cap f, v = some ⟨b, 0, none⟩ ∧ A ≤ b ∧ S.length ≤ cap ∧ W.rowIs b 3 cap f ∧ ∀ i, i < S.length → f i = .int .i64 (el S i)
section
variable {W W' : World} {A : Nat} {v : Option Addr} {S : List Int}
set_option maxRecDepth 10000 in
theorem OwnF.of {w : World} (h : OwnInts .i64 3 W w.heap.size v S) : OwnF W w.heap.size v S := fun hne => by
  obtain ⟨b, cap, e, h1, h2, f, h3, h4⟩ := h hne
  exact ⟨b, cap, f, e, h1, h2, h3, h4⟩
theorem OwnF.pick {R0 : Nat} (h : OwnF W A v S) (hg : W.grownBy W' (some R0)) (h0 : R0 < A) : OwnF W' A v S := fun hne => by
  obtain ⟨b, cap, f, e, h1, h2, h3, h4⟩ := h hne
  exact ⟨b, cap, f, e, h1, h2, h3.of_block (hg.block b h3.lt (fun e => by injection e; omega)), h4⟩
theorem OwnF.next (h : OwnF W A v S) (hb : Below W.heap.size W W') : OwnF W' A v S := fun hne => by
  obtain ⟨b, cap, f, e, h1, h2, h3, h4⟩ := h hne
  exact ⟨b, cap, f, e, h1, h2, h3.of_block (hb.block b h3.lt), h4⟩
theorem OwnF.ints (h : OwnF W A v S) : Ints .i64 W W.heap.size v S := fun hne => by
  obtain ⟨b, cap, f, e, h1, h2, h3, h4⟩ := h hne
  exact ⟨b, 0, e, h3.lt, fun i hi => by rw [Nat.zero_add, h3.cell (by omega), h4 i hi]⟩
end
set_option maxRecDepth 10000 in
set_option maxHeartbeats 4000000 in
theorem drawSlotsValid_any (a : Option Addr) (c : Nat) (ds : List Int) (w : World) (hx : Ints .u8 w w.heap.size a ds) (hw : ∀ n ∈ ds, isByte n) (hc : ds.length ≤ c) (hcm : c ≤ maxLen) :
    Calls Try.prog 14 #[.slice a ds.length c] w (DrawSvP w) := by
  have hl : ds.length ≤ maxLen := Nat.le_trans hc hcm
  go_enter Try.func14, Try.ntmps14
  go_wp2_with fail
  refine (open_any a c ds w hx hw hc hl hcm).mono ?_
  rintro e w1 ⟨rfl, r1, b1⟩
  have R1 := Lib.hid r1
  have B1 := Lib.hid b1
  clear hx hw hc hcm hl r1 b1
  go_wp2_with fail
  refine (l20Conflicts_any w.heap.size 0 7 12 w1 R1.out (by omega) (by omega) (by omega)).mono ?_
  rintro e w2 ⟨a2, c2, R, p2, rfl, h9, ht, r2, hp2, g2⟩
  have H9 := Lib.hid h9
  have T2 := Lib.hid ht
  have R2 := Lib.hid r2
  have B2 := Lib.hid (below_R B1.out g2)
  have hs1 : w.heap.size < w1.heap.size := R1.out.lt
  have hs2 : w1.heap.size ≤ w2.heap.size := g2.size
  have HL := Lib.hid (grL_len (R := R))
  clear h9 ht r2 g2
  go_wp2_with fail
  refine (specGreedySlots_any a2 c2 R w2 T2.out.tbl (rowCap H9.out.1)).mono ?_
  rintro e w3 ⟨v, c3, rfl, _, ho, b3⟩
  have O3 := Lib.hid (OwnF.of ho)
  have T3 := Lib.hid (T2.out.below b3)
  have R3 := Lib.hid (R2.out.below b3 (Nat.lt_of_lt_of_le hs1 hs2))
  have B3 := Lib.hid (B2.out.trans (b3.mono (Nat.le_trans (Nat.le_of_lt hs1) hs2)))
  have hs3 : w2.heap.size ≤ w3.heap.size := b3.size
  clear ho b3
  generalize grL R = S at *
  have hS9 : S.length ≤ 9 := Nat.le_trans HL.out H9.out.1
  by_cases h0 : 0 < S.length
  · have h0' : (0 : Int) < (S.length : Int) := by omega
    go_wp2_with fail
    refine (pick_any w.heap.size p2 2 w3 R3.out (by omega) (by omega) (by omega)).mono ?_
    rintro e w4 ⟨x, ⟨hx, hx'⟩, rfl, r4, g4⟩
    have R4 := Lib.hid r4
    have O4 := Lib.hid (O3.out.pick g4 (Nat.lt_of_lt_of_le hs1 hs2))
    have T4 := Lib.hid (T3.out.pick g4 hs1 hs3)
    have B4 := Lib.hid (below_R B3.out g4)
    have hs4 : w3.heap.size ≤ w4.heap.size := g4.size
    clear r4 g4
    by_cases hx0 : x = 0
    · subst hx0
      go_wp2_with fail
      refine (pick_any w.heap.size (p2 + 1) (S.length : Int) w4 R4.out (by omega) (by omega) (by omega)).mono ?_
      rintro e w5 ⟨y, ⟨hy, hy'⟩, rfl, r5, g5⟩
      obtain ⟨k, rfl⟩ := Int.eq_ofNat_of_zero_le hy
      have hk : k < S.length := by omega
      have B6 := Lib.hid (alloc_belowX w5 (.cells #[.int .i64 0, .int .i64 1, .int .i64 2, .int .i64 (-1), .int .i64 10] 3))
      have R5 := Lib.hid (r5.alloc (.cells #[.int .i64 0, .int .i64 1, .int .i64 2, .int .i64 (-1), .int .i64 10] 3))
      have O5 := Lib.hid ((O4.out.pick g5 (Nat.lt_of_lt_of_le hs1 hs2)).next B6.out)
      have T5 := Lib.hid ((T4.out.pick g5 hs1 (Nat.le_trans hs3 hs4)).below (B6.out.mono (Nat.le_trans (Nat.le_trans hs3 hs4) g5.size)))
      have B5 := Lib.hid ((below_R B4.out g5).trans (B6.out.mono (Nat.le_trans B4.out.size g5.size)))
      have hs5 : w4.heap.size ≤ w5.heap.size := g5.size
      have hcells : ∀ i v, (#[.int .i64 0, .int .i64 1, .int .i64 2, .int .i64 (-1), .int .i64 10] : Array Value)[i]? = some v → (w5.alloc (.cells #[.int .i64 0, .int .i64 1, .int .i64 2, .int .i64 (-1), .int .i64 10] 3)).cell? ⟨w5.heap.size, i, none⟩ = some v := fun i v hv => by rw [cell_of_row _ _ _ _ _ _ (heap_alloc_last _ _)]; exact hv
      have HCl := Lib.hid hcells
      clear r5 g5 hcells hy hy'
      go_wp2_with fail
      generalize w5.alloc (.cells #[.int .i64 0, .int .i64 1, .int .i64 2, .int .i64 (-1), .int .i64 10] 3) = w6 at *
      refine (pick_any w.heap.size (p2 + 1 + 1) 5 w6 R5.out (by omega) (by omega) (by omega)).mono ?_
      rintro e w7 ⟨z, ⟨hz, hz'⟩, rfl, r7, g7⟩
      obtain ⟨q, rfl⟩ := Int.eq_ofNat_of_zero_le hz
      have hq5 : q < 5 := by omega
      obtain ⟨x, hx⟩ : ∃ x : Int, (#[.int .i64 0, .int .i64 1, .int .i64 2, .int .i64 (-1), .int .i64 10] : Array Value)[q]? = some (.int .i64 x) := by
        match q, hq5 with
        | 0, _ => exact ⟨0, rfl⟩
        | 1, _ => exact ⟨1, rfl⟩
        | 2, _ => exact ⟨2, rfl⟩
        | 3, _ => exact ⟨-1, rfl⟩
        | 4, _ => exact ⟨10, rfl⟩
      have hR5 := R5.out.lt
      have hcl := HCl.out q _ hx
      have c5 : w7.cell? ⟨w5.heap.size, q, none⟩ = some (.int .i64 x) := (World.cell?_of_block (g7.block w5.heap.size (World.block_lt_of_cell? _ _ hcl) (fun e => by injection e; omega))).trans hcl
      have O7 := Lib.hid (O5.out.pick g7 (Nat.lt_of_lt_of_le hs1 hs2))
      have hs6 : w5.heap.size < w6.heap.size := World.block_lt_of_cell? _ _ hcl
      have T7 := Lib.hid (T5.out.pick g7 hs1 (by omega))
      have B7 := Lib.hid (below_R B5.out g7)
      have hne : S ≠ [] := by intro e; subst e; simp at hk
      obtain ⟨b, cap, f, rfl, hb1, hcap, hrow, hf⟩ := O7.out hne
      have ck := hrow.cell (i := k) (by omega)
      rw [hf k hk] at ck
      have fk := hrow.frozen k
      have HI : Hid (Ints .i64 (w7.setCell ⟨b, k, none⟩ (.int .i64 x)) (w7.setCell ⟨b, k, none⟩ (.int .i64 x)).heap.size (some ⟨b, 0, none⟩) (S.set k x)) := fun _ => by
        have hr := hrow.set k (.int .i64 x)
        refine ⟨b, 0, rfl, hr.lt, fun i hi => ?_⟩
        rw [List.length_set] at hi
        rw [Nat.zero_add, hr.cell (by omega)]
        by_cases e : i = k
        · subst e; simp [el, hi]
        · rw [if_neg e, hf i hi]
          simp [el, List.getElem?_set_ne (fun h => e h.symm)]
      have HT := Lib.hid ((T7.out.below ((Below.refl w2.heap.size w7).setCell (p := ⟨b, k, none⟩) hb1 (.int .i64 x))).tbl.more (B' := (w7.setCell ⟨b, k, none⟩ (.int .i64 x)).heap.size) (Nat.le_trans (Nat.le_of_lt (Nat.lt_of_le_of_lt hb1 hrow.lt)) (by simp [World.setCell])))
      have HB := Lib.hid (B7.out.setCell (p := ⟨b, k, none⟩) (Nat.le_trans (Nat.le_trans (Nat.le_of_lt hs1) hs2) hb1) (.int .i64 x))
      have HSl := Lib.hid (show (S.set k x).length = S.length by simp)
      have hk' : (k : Int) < (S.length : Int) := by omega
      have hq5' : (q : Int) < 5 := by omega
      clear r7 g7 hx hz hz' hcl hf hrow HCl
      go_wp2
      go_ret2
      exact ⟨a2, c2, R, _, c3, S.set k x, by rw [HSl.out]; rfl, H9.out, by rw [HSl.out]; exact hS9, HT.out, HI.out, HB.out⟩
    · have hx1 : x = 1 := by omega
      subst hx1
      go_wp2
      go_ret2
      exact ⟨a2, c2, R, v, c3, S, rfl, H9.out, hS9, T4.out.tbl.more (Nat.le_trans hs3 hs4), O4.out.ints, B4.out⟩
  · have h0' : ¬ (0 : Int) < (S.length : Int) := by omega
    go_wp2
    go_ret2
    exact ⟨a2, c2, R, v, c3, S, rfl, H9.out, hS9, T3.out.tbl.more hs3, O3.out.ints, B3.out⟩
end Go.Proofs.Ytibgpgifdjefnaa
