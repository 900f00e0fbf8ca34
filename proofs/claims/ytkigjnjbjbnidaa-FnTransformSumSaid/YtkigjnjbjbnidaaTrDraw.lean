/-
  What the laws of chapter 11 draw. No condition.
-/
import Derived.Test.YtkigjnjbjbnidaaSeqDraw
import Derived.Test.YtkigjnjbjbnidaaAppendA
namespace Go.Proofs.Ytkigjnjbjbnidaa
open Go.RowKit

/-- A drawn list lies in memory of the call's own. -/
def LstAt (w : World) (base : Nat) (a : Option Addr) (xs : List Int) : Prop :=
  ∃ b off, a = some ⟨b, off, none⟩ ∧ base ≤ b ∧ b < w.heap.size ∧ ∀ i, i < xs.length → w.cell? ⟨b, off + i, none⟩ = some (.int .i64 (el xs i))
section
variable {w w' : World} {base : Nat} {a : Option Addr} {xs : List Int}
theorem LstAt.ints (h : LstAt w base a xs) : Ints .i64 w w.heap.size a xs := fun _ => by
  obtain ⟨b, off, e, _, hb, hc⟩ := h
  exact ⟨b, off, e, hb, hc⟩
theorem LstAt.grown {R : Nat} (h : LstAt w base a xs) (hg : w.grownBy w' (some R)) (hR : R < base) : LstAt w' base a xs := by
  obtain ⟨b, off, e, h1, hb, hc⟩ := h
  refine ⟨b, off, e, h1, Nat.lt_of_lt_of_le hb hg.size, fun i hi => ?_⟩
  rw [← hc i hi]
  exact World.cell?_of_block (hg.block b hb (fun e => by injection e; omega)) 
theorem lstAt_grow {n cap b : Nat} (h : Grow .i64 3 w base (some ⟨b, 0, none⟩) n cap xs) (hb : base ≤ b ∧ b < w.heap.size) : LstAt w base (some ⟨b, 0, none⟩) xs := by
  refine ⟨b, 0, rfl, hb.1, hb.2, fun i hi => ?_⟩
  have hl := h.len
  obtain ⟨b', f, e, _, _, h3, h4, h5⟩ := h.row (by omega)
  injection e with e
  injection e with e
  subst e
  rw [Nat.zero_add, h4.cell (by omega), h5 i (by omega)]
end
/-- A drawn list for the transform: at most 17 numbers; only the reader was written besides. -/
def PtsDrawn (R p : Nat) (w : World) (e : Ending) (w' : World) : Prop :=
  ∃ xs a n cap p', e = .returned (.slice a n cap) ∧ (xs.length = n ∧ n ≤ 17 ∧ n ≤ cap ∧ cap ≤ maxLen) ∧ LstAt w' w.heap.size a xs ∧ Rd w' R p' ∧ p' ≤ p + 100 ∧ w.grownBy w' (some R)
/-- The state of the loop that draws it: k numbers are drawn. -/
def PtsRel (R p : Nat) (w : World) (k : Nat) (v : Option Addr) (cap : Nat) (wr : World) : Prop :=
  ∃ xs b p', v = some ⟨b, 0, none⟩ ∧ Grow .i64 3 wr w.heap.size v k cap xs ∧ Rd wr R p' ∧ p' ≤ p + 3 * k ∧ w.grownBy wr (some R)
theorem grow_blkT {k : IntKind} {t : TypeId} {w : World} {base g n cap : Nat} {xs : List Int} (h : Grow k t w base (some ⟨g, 0, none⟩) n cap xs) : base ≤ g ∧ g < w.heap.size := World.ownsRow.lt h g rfl
theorem grow_addrT {k : IntKind} {t : TypeId} {w : World} {base n cap : Nat} {a : Option Addr} {xs : List Int} (h : Grow k t w base a (n + 1) cap xs) : ∃ g, a = some ⟨g, 0, none⟩ := by
  obtain ⟨b, f, e, _⟩ := h.row (by omega)
  exact ⟨b, e⟩
theorem cell_grownT {w w' : World} {R i : Nat} {cs : Array Value} {t : TypeId} (hg : (w.alloc (.cells cs t)).grownBy w' (some R)) (hR : R < w.heap.size) : w'.cell? ⟨w.heap.size, i, none⟩ = cs[i]? := by
  rw [World.cell?_of_block (hg.block w.heap.size (by simp) (fun e => by injection e; omega)), cell_of_row _ _ _ _ _ _ (heap_alloc_last w _)]
/-- One number of such a list changed. -/
theorem lst_set {w : World} {base b cap j : Nat} {xs : List Int} {v : Int} (h : Grow .i64 3 w base (some ⟨b, 0, none⟩) 16 cap xs) (hj : j < 16) :
    ∃ u, w.cell? ⟨b, j, none⟩ = some u ∧ w.frozen? ⟨b, j, none⟩ = false ∧ LstAt (w.setCell ⟨b, j, none⟩ (.int .i64 v)) base (some ⟨b, 0, none⟩) (xs.set j v) := by
  have hb := grow_blkT h
  have hl := h.len
  obtain ⟨b', f, e, _, _, h3, h4, h5⟩ := h.row (by omega)
  injection e with e
  injection e with e
  subst e
  refine ⟨_, h4.cell (by omega), h4.frozen j, b, 0, rfl, hb.1, by simpa using hb.2, fun i hi => ?_⟩
  rw [List.length_set] at hi
  rw [Nat.zero_add, (h4.set j (.int .i64 v)).cell (by omega)]
  by_cases e : i = j
  · subst e; simp [el, hi]
  · simp only [e, if_false]
    rw [h5 i (by omega)]
    simp [el, List.getElem?_set_ne (show j ≠ i by omega)]
theorem lst_drop {w : World} {base b cap : Nat} {xs : List Int} (h : Grow .i64 3 w base (some ⟨b, 0, none⟩) 16 cap xs) : LstAt w base (some ⟨b, 1, none⟩) (xs.drop 1) := by
  have hb := grow_blkT h
  obtain ⟨b', off, e, _, _, hc⟩ := lstAt_grow h hb
  injection e with e
  injection e with e1 e2
  subst e1 e2
  refine ⟨b, 1, rfl, hb.1, hb.2, fun i hi => ?_⟩
  rw [List.length_drop] at hi
  have := hc (1 + i) (by omega)
  rw [Nat.zero_add] at this
  rw [this, Nat.add_comm 1 i]
  simp [el]
set_option maxHeartbeats 4000000 in
theorem points_any (R p : Nat) (n : Int) (w : World) (hr : Rd w R p) (hp : p ≤ 274877906944) (hn1 : 1 ≤ n) (hn2 : n ≤ 1000000) :
    Calls Try.prog 28 #[.pointer (some ⟨R, 0, none⟩), .int .i64 n] w (PtsDrawn R p w) := by
  have R0 := Lib.hid (hr.alloc (.cells #[] 3))
  have hRw := hr.lt
  have L0 := Lib.hid (Grow.lit0 .i64 3 w w.heap.size (Nat.le_refl _))
  have G0 := Lib.hid (grown_alloc (World.grownBy.refl w (some R)) (.cells #[] 3))
  clear hr
  go_enter Try.func28, Try.ntmps28
  go_wp2
  go_loopw [5, 6] (fun s i wr => ∃ (k : Nat) (v : Option Addr) (cap : Nat), k ≤ 16 ∧ i = .int .i64 k ∧ s = .slice v k cap ∧ PtsRel R p w k v cap wr) (fun _ i _ => 16 - (intOf i).toNat)
  case atStart => exact ⟨0, _, _, Nat.zero_le _, rfl, rfl, [], _, p, rfl, L0.out, R0.out, by omega, G0.out⟩
  case round =>
    obtain ⟨k, v, cap, hk, rfl, rfl, xs, ad, p', rfl, hgr, hrd, hp', hgn⟩ := hrel
    have HG := Lib.hid hgr
    have HR := Lib.hid hrd
    have HN := Lib.hid hgn
    have hsz : w.heap.size ≤ wr.heap.size := hgn.size
    clear hgr hrd hgn R0 L0 G0
    by_cases hlt : k < 16
    · go_wp2_with fail
      refine (pick_any R p' 256 wr HR.out (by omega) (by omega) (by omega)).mono ?_
      rintro e w2 ⟨x1, ⟨hx1, hx1'⟩, rfl, r2, g2⟩
      have R2 := Lib.hid r2
      have N2 := Lib.hid (grown_trans HN.out g2)
      have L2 := Lib.hid (HG.out.grownR g2 hRw)
      clear r2 g2
      go_wp2_with fail
      refine (pick_any R (p' + 1) 256 w2 R2.out (by omega) (by omega) (by omega)).mono ?_
      rintro e w3 ⟨x2, ⟨hx2, hx2'⟩, rfl, r3, g3⟩
      have R3 := Lib.hid r3
      have N3 := Lib.hid (grown_trans N2.out g3)
      have L3 := Lib.hid (L2.out.grownR g3 hRw)
      have hs3 : R < w3.heap.size := r3.lt
      clear r3 g3
      go_wp2_with fail
      refine (pick_any R (p' + 1 + 1) 5 _ (R3.out.alloc _) (by omega) (by omega) (by omega)).mono ?_
      rintro e w4 ⟨v3, ⟨hv3, hv3'⟩, rfl, r4, g4⟩
      obtain ⟨j, rfl⟩ := Int.eq_ofNat_of_zero_le hv3
      have hj : j < 5 := by omega
      have hcell : ∃ x : Int, w4.cell? ⟨w3.heap.size, j, none⟩ = some (.int .i64 x) := by
        rw [cell_grownT g4 hs3]
        match j, hj with
        | 0, _ => exact ⟨_, rfl⟩
        | 1, _ => exact ⟨_, rfl⟩
        | 2, _ => exact ⟨_, rfl⟩
        | 3, _ => exact ⟨_, rfl⟩
        | 4, _ => exact ⟨_, rfl⟩
        | (m + 5), h => exact absurd h (by omega)
      obtain ⟨x, hc⟩ := hcell
      have R4 := Lib.hid r4
      have N4 := Lib.hid (grown_trans (grown_alloc N3.out _) g4)
      have L4 := Lib.hid ((L3.out.alloc _).grownR g4 hRw)
      have hsz4 : w.heap.size ≤ w4.heap.size := N4.out.size
      clear r4 g4 hv3 hv3'
      go_wp2_with (at_builtin; refine wpList_append1 (.tmp 12) (.tmp 22) w.heap.size (some ⟨ad, 0, none⟩) k cap xs ⟨w4.heap.size, 0, none⟩ x rfl rfl rfl rfl (L4.out.alloc _) (by simp) (by omega) (by simp; omega) ?_; intro a5 cap5 w5 hg5 hb5; have HG5 := Lib.hid hg5; have HB5 := Lib.hid hb5; clear hg5 hb5)
      go_roundw
      case rel =>
        obtain ⟨ad5, rfl⟩ := grow_addrT HG5.out
        exact ⟨k + 1, _, cap5, by omega, by go_num, rfl, _, ad5, p' + 1 + 1 + 1, rfl, HG5.out, (R4.out.alloc _).below HB5.out hRw, by omega, grown_below (grown_alloc N4.out _) HB5.out (Nat.le_refl _)⟩
      case measure => simp [intOf]; omega
    · obtain rfl : k = 16 := by omega
      go_wp2_with fail
      refine (odd_any R p' n wr HR.out (by omega) (by omega) (by omega)).mono ?_
      rintro e w2 ⟨b, rfl, r2, g2⟩
      have R2 := Lib.hid r2
      have N2 := Lib.hid (grown_trans HN.out g2)
      have L2 := Lib.hid (HG.out.grownR g2 hRw)
      clear r2 g2
      cases b
      · have HP : Hid (PtsDrawn R p w (.returned (.slice (some ⟨ad, 0, none⟩) 16 cap)) w2) := ⟨xs, _, 16, cap, p' + 1, rfl, ⟨L2.out.len, by omega, L2.out.room.1, L2.out.room.2⟩, lstAt_grow L2.out (grow_blkT L2.out), R2.out, by omega, N2.out⟩
        go_wp2
        go_ret
        exact HP.out
      · go_wp2_with fail
        refine (pick_any R (p' + 1) 3 w2 R2.out (by omega) (by omega) (by omega)).mono ?_
        rintro e w3 ⟨v3, ⟨hv3, hv3'⟩, rfl, r3, g3⟩
        have R3 := Lib.hid r3
        have N3 := Lib.hid (grown_trans N2.out g3)
        have L3 := Lib.hid (L2.out.grownR g3 hRw)
        have hsz3 : w.heap.size ≤ w3.heap.size := N3.out.size
        have hs3 : R < w3.heap.size := r3.lt
        clear r3 g3
        by_cases hz : v3 = 0
        · subst hz
          go_wp2_with fail
          refine (pick_any R (p' + 1 + 1) 16 w3 R3.out (by omega) (by omega) (by omega)).mono ?_
          rintro e w4 ⟨v4, ⟨hv4, hv4'⟩, rfl, r4, g4⟩
          obtain ⟨j, rfl⟩ := Int.eq_ofNat_of_zero_le hv4
          have hj : j < 16 := by omega
          have R4 := Lib.hid r4
          have N4 := Lib.hid (grown_trans N3.out g4)
          have L4 := Lib.hid (L3.out.grownR g4 hRw)
          have hs4 : R < w4.heap.size := r4.lt
          clear r4 g4 hv4 hv4'
          go_wp2_with fail
          refine (pick_any R (p' + 1 + 1 + 1) 2 _ (R4.out.alloc _) (by omega) (by omega) (by omega)).mono ?_
          rintro e w5 ⟨v5, ⟨hv5, hv5'⟩, rfl, r5, g5⟩
          obtain ⟨i, rfl⟩ := Int.eq_ofNat_of_zero_le hv5
          have hi : i < 2 := by omega
          have hcell : ∃ x : Int, w5.cell? ⟨w4.heap.size, i, none⟩ = some (.int .i64 x) := by
            rw [cell_grownT g5 hs4]
            match i, hi with
            | 0, _ => exact ⟨_, rfl⟩
            | 1, _ => exact ⟨_, rfl⟩
            | (m + 2), h => exact absurd h (by omega)
          obtain ⟨x, hc⟩ := hcell
          have R5 := Lib.hid r5
          have N5 := Lib.hid (grown_trans (grown_alloc N4.out _) g5)
          have L5 := Lib.hid ((L4.out.alloc _).grownR g5 hRw)
          obtain ⟨u, hcu, hfu, hst⟩ := lst_set (v := x) L5.out hj
          have HS := Lib.hid hst
          have hblk := (grow_blkT L5.out).1
          have HB5 := Lib.hid ((Below.refl w.heap.size w5).setCell (p := ⟨ad, j, none⟩) hblk (.int .i64 x))
          have HL5 := Lib.hid L5.out.len
          have HRm := Lib.hid L5.out.room
          clear r5 g5 hv5 hv5' hst hblk
          go_wp2
          go_ret
          exact ⟨_, _, 16, cap, p' + 1 + 1 + 1 + 1, rfl, ⟨by rw [List.length_set]; exact HL5.out, by omega, HRm.out.1, HRm.out.2⟩, HS.out, R5.out.below HB5.out hRw, by omega, grown_below N5.out HB5.out (Nat.le_refl _)⟩
        · have hz' : (v3 == 0) = false := by simpa using hz
          by_cases h1 : v3 = 1
          · subst h1
            have HD := Lib.hid (lst_drop L3.out)
            have HL3 := Lib.hid L3.out.len
            have HRm := Lib.hid L3.out.room
            have hc1 : ¬ cap = 1 := by have := L3.out.room.1; omega
            clear hz hz'
            go_wp2
            go_ret
            exact ⟨_, _, 15, cap - 1, p' + 1 + 1, rfl, ⟨by rw [List.length_drop, HL3.out], by omega, by have := HRm.out; omega, by have := HRm.out; omega⟩, HD.out, R3.out, by omega, N3.out⟩
          · have h1' : (v3 == 1) = false := by simpa using h1
            clear hz h1
            go_wp2_with (at_builtin; refine wpList_append1 (.tmp 29) (.tmp 30) w.heap.size (some ⟨ad, 0, none⟩) 16 cap xs ⟨w3.heap.size, 0, none⟩ 0 rfl rfl rfl rfl (L3.out.alloc _) (by simp) (by omega) (by simp; omega) ?_; intro a5 cap5 w5 hg5 hb5; have HG5 := Lib.hid hg5; have HB5 := Lib.hid hb5; clear hg5 hb5)
            go_ret
            obtain ⟨ad5, rfl⟩ := grow_addrT HG5.out
            exact ⟨_, _, 17, cap5, p' + 1 + 1, rfl, ⟨HG5.out.len, by omega, HG5.out.room.1, HG5.out.room.2⟩, lstAt_grow HG5.out (grow_blkT HG5.out), (R3.out.alloc _).below HB5.out hRw, by omega, grown_below (grown_alloc N3.out _) HB5.out (Nat.le_refl _)⟩
/-- What drawing leaves: a list; two lists. -/
def PtsP1 (w : World) (e : Ending) (w' : World) : Prop :=
  ∃ xs a c, e = .returned (.slice a xs.length c) ∧ (xs.length ≤ 17 ∧ xs.length ≤ c ∧ c ≤ maxLen) ∧ LstAt w' w.heap.size a xs ∧ Below w.heap.size w w'
def PtsP2 (w : World) (e : Ending) (w' : World) : Prop :=
  ∃ xs a c ys a' c', e = .returned (.tuple #[.slice a xs.length c, .slice a' ys.length c']) ∧ (xs.length ≤ 17 ∧ xs.length ≤ c ∧ c ≤ maxLen) ∧ (ys.length ≤ 17 ∧ ys.length ≤ c' ∧ c' ≤ maxLen) ∧ LstAt w' w.heap.size a xs ∧ LstAt w' w.heap.size a' ys ∧ Below w.heap.size w w'
theorem LstAt.base_le {w : World} {base base' : Nat} {a : Option Addr} {xs : List Int} (h : LstAt w base a xs) (hb : base' ≤ base) : LstAt w base' a xs := by
  obtain ⟨b, off, e, h1, h2, hc⟩ := h
  exact ⟨b, off, e, Nat.le_trans hb h1, h2, hc⟩
set_option maxHeartbeats 1000000 in
theorem drawForward_any (a : Option Addr) (c : Nat) (ds : List Int) (w : World) (hx : Ints .u8 w w.heap.size a ds) (hw : ∀ n ∈ ds, isByte n) (hc : ds.length ≤ c) (hcm : c ≤ maxLen) :
    Calls Try.prog 14 #[.slice a ds.length c] w (PtsP1 w) := by
  have hl : ds.length ≤ maxLen := Nat.le_trans hc hcm
  go_enter Try.func14, Try.ntmps14
  go_wp2_with fail
  refine (open_any a c ds w hx hw hc hl hcm).mono ?_
  rintro e w1 ⟨rfl, r1, b1⟩
  have h1 : w.heap.size < w1.heap.size := r1.lt
  have R1 := Lib.hid r1
  have B1 := Lib.hid b1
  clear hx hw hc hcm hl r1 b1
  go_wp2_with fail
  refine (points_any w.heap.size 0 9 w1 R1.out (by omega) (by omega) (by omega)).mono ?_
  rintro e w2 ⟨xs, a2, n, c2, p2, rfl, hn, hl2, r2, hp2, g2⟩
  obtain ⟨hn1, hn2, hn3, hn4⟩ := hn
  subst hn1
  have HL := Lib.hid (hl2.base_le (Nat.le_of_lt h1))
  have B2 := Lib.hid (below_R B1.out g2)
  have HN := Lib.hid (And.intro hn2 (And.intro hn3 hn4))
  clear hl2 r2 g2 hn2 hn3 hn4
  go_wp2
  go_ret
  exact ⟨xs, a2, c2, rfl, HN.out, HL.out, B2.out⟩
set_option maxHeartbeats 1000000 in
theorem drawBackward_any (a : Option Addr) (c : Nat) (ds : List Int) (w : World) (hx : Ints .u8 w w.heap.size a ds) (hw : ∀ n ∈ ds, isByte n) (hc : ds.length ≤ c) (hcm : c ≤ maxLen) :
    Calls Try.prog 19 #[.slice a ds.length c] w (PtsP1 w) := by
  have hl : ds.length ≤ maxLen := Nat.le_trans hc hcm
  go_enter Try.func19, Try.ntmps19
  go_wp2_with fail
  refine (open_any a c ds w hx hw hc hl hcm).mono ?_
  rintro e w1 ⟨rfl, r1, b1⟩
  have h1 : w.heap.size < w1.heap.size := r1.lt
  have R1 := Lib.hid r1
  have B1 := Lib.hid b1
  clear hx hw hc hcm hl r1 b1
  go_wp2_with fail
  refine (points_any w.heap.size 0 9 w1 R1.out (by omega) (by omega) (by omega)).mono ?_
  rintro e w2 ⟨xs, a2, n, c2, p2, rfl, hn, hl2, r2, hp2, g2⟩
  obtain ⟨hn1, hn2, hn3, hn4⟩ := hn
  subst hn1
  have HL := Lib.hid (hl2.base_le (Nat.le_of_lt h1))
  have B2 := Lib.hid (below_R B1.out g2)
  have HN := Lib.hid (And.intro hn2 (And.intro hn3 hn4))
  clear hl2 r2 g2 hn2 hn3 hn4
  go_wp2
  go_ret
  exact ⟨xs, a2, c2, rfl, HN.out, HL.out, B2.out⟩
set_option maxHeartbeats 1000000 in
theorem drawCyclic_any (a : Option Addr) (c : Nat) (ds : List Int) (w : World) (hx : Ints .u8 w w.heap.size a ds) (hw : ∀ n ∈ ds, isByte n) (hc : ds.length ≤ c) (hcm : c ≤ maxLen) :
    Calls Try.prog 21 #[.slice a ds.length c] w (PtsP2 w) := by
  have hl : ds.length ≤ maxLen := Nat.le_trans hc hcm
  go_enter Try.func21, Try.ntmps21
  go_wp2_with fail
  refine (open_any a c ds w hx hw hc hl hcm).mono ?_
  rintro e w1 ⟨rfl, r1, b1⟩
  have h1 : w.heap.size < w1.heap.size := r1.lt
  have R1 := Lib.hid r1
  have B1 := Lib.hid b1
  clear hx hw hc hcm hl r1 b1
  go_wp2_with fail
  refine (points_any w.heap.size 0 12 w1 R1.out (by omega) (by omega) (by omega)).mono ?_
  rintro e w2 ⟨xs, a2, n, c2, p2, rfl, hn, hl2, r2, hp2, g2⟩
  obtain ⟨hn1, hn2, hn3, hn4⟩ := hn
  subst hn1
  have HL := Lib.hid hl2
  have B2 := Lib.hid (below_R B1.out g2)
  have R2 := Lib.hid r2
  have h2 : w.heap.size < w2.heap.size := r2.lt
  have HN := Lib.hid (And.intro hn2 (And.intro hn3 hn4))
  clear hl2 r2 g2 hn2 hn3 hn4
  go_wp2_with fail
  refine (points_any w.heap.size p2 12 w2 R2.out (by omega) (by omega) (by omega)).mono ?_
  rintro e w3 ⟨ys, a3, n3, c3, p3, rfl, hn, hl3, r3, hp3, g3⟩
  obtain ⟨hn1, hn2, hn3, hn4⟩ := hn
  subst hn1
  have HL2 := Lib.hid ((HL.out.grown g3 h1).base_le (Nat.le_of_lt h1))
  have HL3 := Lib.hid (hl3.base_le (Nat.le_of_lt h2))
  have B3 := Lib.hid (below_R B2.out g3)
  have HN3 := Lib.hid (And.intro hn2 (And.intro hn3 hn4))
  clear hl3 r3 g3 hn2 hn3 hn4
  go_wp2
  go_ret2
  exact ⟨xs, a2, c2, ys, a3, c3, rfl, HN.out, HN3.out, HL2.out, HL3.out, B3.out⟩
end Go.Proofs.Ytkigjnjbjbnidaa
