/-
  What the laws of chapter 10 draw. No condition.
-/
import Derived.Test.YtdnnpnaaohfgaaaSeqDraw
import Derived.Test.YtdnnpnaaohfgaaaAppendA
namespace Go.Proofs.Ytdnnpnaaohfgaaa
open Go.RowKit

/-- A drawn list in memory: at the beginning of a block, its numbers small. -/
def DrawnL (w : World) (b c : Nat) (xs : List Int) : Prop :=
  xs.length ≤ 300 ∧ (xs.length ≤ c ∧ c ≤ maxLen) ∧ (∀ x ∈ xs, sml x) ∧ Ints .i64 w w.heap.size (some ⟨b, 0, none⟩) xs
theorem drawnL_grow {w : World} {base b c : Nat} {xs : List Int} (h : Grow .i64 3 w base (some ⟨b, 0, none⟩) xs.length c xs) (hl : xs.length ≤ 300) (hs : ∀ x ∈ xs, sml x) : DrawnL w b c xs := ⟨hl, h.room, hs, h.ints⟩
/-- What drawing leaves: a list; two lists; lists and numbers. -/
def DrawP1 (w : World) (e : Ending) (w' : World) : Prop :=
  ∃ xs b c, e = .returned (.slice (some ⟨b, 0, none⟩) xs.length c) ∧ DrawnL w' b c xs ∧ Below w.heap.size w w'
def DrawP2 (w : World) (e : Ending) (w' : World) : Prop :=
  ∃ xs b c ys b' c', e = .returned (.tuple #[.slice (some ⟨b, 0, none⟩) xs.length c, .slice (some ⟨b', 0, none⟩) ys.length c']) ∧ DrawnL w' b c xs ∧ DrawnL w' b' c' ys ∧ Below w.heap.size w w'
def DrawP2S (w : World) (e : Ending) (w' : World) : Prop :=
  ∃ xs b c ys b' c', e = .returned (.tuple #[.slice (some ⟨b, 0, none⟩) xs.length c, .slice (some ⟨b', 0, none⟩) ys.length c']) ∧ DrawnL w' b c xs ∧ DrawnL w' b' c' ys ∧ Below w.heap.size w w' ∧ (ys.length ≤ 21 ∨ ys.length = 65)
def DrawP2I (w : World) (e : Ending) (w' : World) : Prop :=
  ∃ xs b c ys b' c' q, e = .returned (.tuple #[.slice (some ⟨b, 0, none⟩) xs.length c, .slice (some ⟨b', 0, none⟩) ys.length c', .int .i64 q]) ∧ (-1 ≤ q ∧ q ≤ 300) ∧ DrawnL w' b c xs ∧ DrawnL w' b' c' ys ∧ Below w.heap.size w w'
def DrawP1I (w : World) (e : Ending) (w' : World) : Prop :=
  ∃ xs b c q, e = .returned (.tuple #[.slice (some ⟨b, 0, none⟩) xs.length c, .int .i64 q]) ∧ (-1 ≤ q ∧ q ≤ 300) ∧ DrawnL w' b c xs ∧ Below w.heap.size w w'
def DrawP1II (w : World) (e : Ending) (w' : World) : Prop :=
  ∃ xs b c q r, e = .returned (.tuple #[.slice (some ⟨b, 0, none⟩) xs.length c, .int .i64 q, .int .i64 r]) ∧ (-1 ≤ q ∧ q ≤ 300) ∧ (-1 ≤ r ∧ r ≤ 300) ∧ DrawnL w' b c xs ∧ Below w.heap.size w w'
theorem Grow.under {k : IntKind} {t : TypeId} {w w' : World} {base n cap g B : Nat} {xs : List Int} (h : Grow k t w base (some ⟨g, 0, none⟩) n cap xs) (hb : Below B w w') (hlt : g < B) : Grow k t w' base (some ⟨g, 0, none⟩) n cap xs := by
  refine ⟨h.1, ?_⟩
  rcases h.2 with ⟨e, _⟩ | ⟨g', c, cur, e, hg, hh, rest⟩
  · injection e with e; cases e
  · have e0 := e
    injection e with e1
    injection e1 with e1
    injection e1 with e1
    subst e1
    exact .inr ⟨g, c, cur, e0, hg, (hb.block g hlt).trans hh, rest⟩
theorem Grow.blk {k : IntKind} {t : TypeId} {w : World} {base g n cap : Nat} {xs : List Int} (h : Grow k t w base (some ⟨g, 0, none⟩) n cap xs) : base ≤ g ∧ g < w.heap.size := World.ownsRow.lt h g rfl
theorem sml_app {xs ys : List Int} (h : ∀ y ∈ xs, sml y) (h2 : ∀ y ∈ ys, sml y) : ∀ y ∈ xs ++ ys, sml y := fun y hy => by
  rcases List.mem_append.1 hy with hy | hy
  · exact h y hy
  · exact h2 y hy
theorem sml_set {xs : List Int} {x : Int} {j : Nat} (h : ∀ y ∈ xs, sml y) (hx : sml x) : ∀ y ∈ xs.set j x, sml y := fun y hy => by
  rcases List.mem_or_eq_of_mem_set hy with hy | rfl
  · exact h y hy
  · exact hx
theorem grow_litQ (w : World) (base : Nat) (a : Int) (hb : base ≤ w.heap.size) : Grow .i64 3 (w.alloc (.cells #[.int .i64 a] 3)) base (some ⟨w.heap.size, 0, none⟩) 1 1 [a] :=
  ⟨rfl, .inr ⟨w.heap.size, 1, #[.int .i64 a], rfl, hb, heap_alloc_last _ _, Nat.le_refl _, by unfold maxLen; omega, rfl, rfl⟩⟩
set_option maxHeartbeats 1000000 in
theorem drawSequenceValid_any (a : Option Addr) (c : Nat) (ds : List Int) (w : World) (hx : Ints .u8 w w.heap.size a ds) (hw : ∀ n ∈ ds, isByte n) (hc : ds.length ≤ c) (hcm : c ≤ maxLen) :
    Calls Try.prog 12 #[.slice a ds.length c] w (DrawP1 w) := by
  have hl : ds.length ≤ maxLen := Nat.le_trans hc hcm
  go_enter Try.func12, Try.ntmps12
  go_wp2_with fail
  refine (open_any a c ds w hx hw hc hl hcm).mono ?_
  rintro e w1 ⟨rfl, r1, b1⟩
  have h1 : w.heap.size < w1.heap.size := r1.lt
  have R1 := Lib.hid r1
  have B1 := Lib.hid b1
  clear hx hw hc hcm hl r1 b1
  go_wp2_with fail
  refine (sequence_any w.heap.size 0 9 2 w1 R1.out (by omega) (by omega) (by omega) (by omega) (by omega)).mono ?_
  rintro e w2 ⟨xs, bxs, nxs, cxs, p2, rfl, lxs, s2, x2, r2, hp2, g2⟩
  obtain rfl : xs.length = nxs := x2.len
  have h2 : w.heap.size < w2.heap.size := r2.lt
  have R2 := Lib.hid r2
  have B2 := Lib.hid (below_R B1.out g2)
  have SX := Lib.hid s2
  have X2 := Lib.hid x2
  clear r2 g2 s2 x2
  have HP : Hid (DrawP1 w (.returned (.slice (some ⟨bxs, 0, none⟩) xs.length cxs)) w2) := ⟨xs, bxs, cxs, rfl, drawnL_grow X2.out (by omega) SX.out, B2.out⟩
  go_wp2
  go_ret
  exact HP.out
set_option maxHeartbeats 1000000 in
theorem drawFilterSequence_any (a : Option Addr) (c : Nat) (ds : List Int) (w : World) (hx : Ints .u8 w w.heap.size a ds) (hw : ∀ n ∈ ds, isByte n) (hc : ds.length ≤ c) (hcm : c ≤ maxLen) :
    Calls Try.prog 16 #[.slice a ds.length c] w (DrawP2 w) := by
  have hl : ds.length ≤ maxLen := Nat.le_trans hc hcm
  go_enter Try.func16, Try.ntmps16
  go_wp2_with fail
  refine (open_any a c ds w hx hw hc hl hcm).mono ?_
  rintro e w1 ⟨rfl, r1, b1⟩
  have h1 : w.heap.size < w1.heap.size := r1.lt
  have R1 := Lib.hid r1
  have B1 := Lib.hid b1
  clear hx hw hc hcm hl r1 b1
  go_wp2_with fail
  refine (sequence_any w.heap.size 0 9 12 w1 R1.out (by omega) (by omega) (by omega) (by omega) (by omega)).mono ?_
  rintro e w2 ⟨xs, bxs, nxs, cxs, p2, rfl, lxs, s2, x2, r2, hp2, g2⟩
  obtain rfl : xs.length = nxs := x2.len
  have h2 : w.heap.size < w2.heap.size := r2.lt
  have R2 := Lib.hid r2
  have B2 := Lib.hid (below_R B1.out g2)
  have SX := Lib.hid s2
  have X2 := Lib.hid x2
  clear r2 g2 s2 x2
  go_wp2_with fail
  refine (sequence_any w.heap.size p2 5 12 w2 R2.out (by omega) (by omega) (by omega) (by omega) (by omega)).mono ?_
  rintro e w3 ⟨ys, bys, nys, cys, p3, rfl, lys, s3, x3, r3, hp3, g3⟩
  obtain rfl : ys.length = nys := x3.len
  have h3 : w.heap.size < w3.heap.size := r3.lt
  have R3 := Lib.hid r3
  have B3 := Lib.hid (below_R B2.out g3)
  have SY := Lib.hid s3
  have Y3 := Lib.hid x3
  have X3 := Lib.hid (X2.out.grownR g3 h1)
  clear r3 g3 s3 x3
  go_wp2
  go_ret2
  exact ⟨xs, bxs, cxs, ys, bys, cys, rfl, drawnL_grow X3.out (by omega) SX.out, drawnL_grow Y3.out (by omega) SY.out, B3.out⟩
set_option maxHeartbeats 1000000 in
theorem drawCorrelateAt_any (a : Option Addr) (c : Nat) (ds : List Int) (w : World) (hx : Ints .u8 w w.heap.size a ds) (hw : ∀ n ∈ ds, isByte n) (hc : ds.length ≤ c) (hcm : c ≤ maxLen) :
    Calls Try.prog 20 #[.slice a ds.length c] w (DrawP2I w) := by
  have hl : ds.length ≤ maxLen := Nat.le_trans hc hcm
  go_enter Try.func20, Try.ntmps20
  go_wp2_with fail
  refine (open_any a c ds w hx hw hc hl hcm).mono ?_
  rintro e w1 ⟨rfl, r1, b1⟩
  have h1 : w.heap.size < w1.heap.size := r1.lt
  have R1 := Lib.hid r1
  have B1 := Lib.hid b1
  clear hx hw hc hcm hl r1 b1
  go_wp2_with fail
  refine (sequence_any w.heap.size 0 12 14 w1 R1.out (by omega) (by omega) (by omega) (by omega) (by omega)).mono ?_
  rintro e w2 ⟨xs, bxs, nxs, cxs, p2, rfl, lxs, s2, x2, r2, hp2, g2⟩
  obtain rfl : xs.length = nxs := x2.len
  have h2 : w.heap.size < w2.heap.size := r2.lt
  have R2 := Lib.hid r2
  have B2 := Lib.hid (below_R B1.out g2)
  have SX := Lib.hid s2
  have X2 := Lib.hid x2
  clear r2 g2 s2 x2
  go_wp2_with fail
  refine (sequence_any w.heap.size p2 5 14 w2 R2.out (by omega) (by omega) (by omega) (by omega) (by omega)).mono ?_
  rintro e w3 ⟨ys, bys, nys, cys, p3, rfl, lys, s3, x3, r3, hp3, g3⟩
  obtain rfl : ys.length = nys := x3.len
  have h3 : w.heap.size < w3.heap.size := r3.lt
  have R3 := Lib.hid r3
  have B3 := Lib.hid (below_R B2.out g3)
  have SY := Lib.hid s3
  have Y3 := Lib.hid x3
  have X3 := Lib.hid (X2.out.grownR g3 h1)
  clear r3 g3 s3 x3
  go_wp2_with fail
  refine (pick_any w.heap.size p3 ((xs.length : Int) + 2) w3 R3.out (by omega) (by omega) (by omega)).mono ?_
  rintro e w4 ⟨v, ⟨v0, v1⟩, rfl, r4, g4⟩
  have h4 : w.heap.size < w4.heap.size := r4.lt
  have R4 := Lib.hid r4
  have B4 := Lib.hid (below_R B3.out g4)
  have X4 := Lib.hid (X3.out.grownR g4 h1)
  have Y4 := Lib.hid (Y3.out.grownR g4 h2)
  clear r4 g4
  have HQ : Hid (-1 ≤ v - 1 ∧ v - 1 ≤ 300) := ⟨by omega, by omega⟩
  go_wp2
  go_ret3
  exact ⟨xs, bxs, cxs, ys, bys, cys, v - 1, rfl, HQ.out, drawnL_grow X4.out (by omega) SX.out, drawnL_grow Y4.out (by omega) SY.out, B4.out⟩
set_option maxHeartbeats 1000000 in
theorem drawRaiseRate_any (a : Option Addr) (c : Nat) (ds : List Int) (w : World) (hx : Ints .u8 w w.heap.size a ds) (hw : ∀ n ∈ ds, isByte n) (hc : ds.length ≤ c) (hcm : c ≤ maxLen) :
    Calls Try.prog 26 #[.slice a ds.length c] w (DrawP1I w) := by
  have hl : ds.length ≤ maxLen := Nat.le_trans hc hcm
  go_enter Try.func26, Try.ntmps26
  go_wp2_with fail
  refine (open_any a c ds w hx hw hc hl hcm).mono ?_
  rintro e w1 ⟨rfl, r1, b1⟩
  have h1 : w.heap.size < w1.heap.size := r1.lt
  have R1 := Lib.hid r1
  have B1 := Lib.hid b1
  clear hx hw hc hcm hl r1 b1
  go_wp2_with fail
  refine (sequence_any w.heap.size 0 9 12 w1 R1.out (by omega) (by omega) (by omega) (by omega) (by omega)).mono ?_
  rintro e w2 ⟨xs, bxs, nxs, cxs, p2, rfl, lxs, s2, x2, r2, hp2, g2⟩
  obtain rfl : xs.length = nxs := x2.len
  have h2 : w.heap.size < w2.heap.size := r2.lt
  have R2 := Lib.hid r2
  have B2 := Lib.hid (below_R B1.out g2)
  have SX := Lib.hid s2
  have X2 := Lib.hid x2
  clear r2 g2 s2 x2
  go_wp2_with fail
  refine (pick_any w.heap.size p2 10 w2 R2.out (by omega) (by omega) (by omega)).mono ?_
  rintro e w3 ⟨v, ⟨v0, v1⟩, rfl, r3, g3⟩
  have h3 : w.heap.size < w3.heap.size := r3.lt
  have R3 := Lib.hid r3
  have B3 := Lib.hid (below_R B2.out g3)
  have X3 := Lib.hid (X2.out.grownR g3 h1)
  clear r3 g3
  have HQ : Hid (-1 ≤ v ∧ v ≤ 300) := ⟨by omega, by omega⟩
  go_wp2
  go_ret2
  exact ⟨xs, bxs, cxs, v, rfl, HQ.out, drawnL_grow X3.out (by omega) SX.out, B3.out⟩
set_option maxHeartbeats 1000000 in
theorem drawLowerRate_any (a : Option Addr) (c : Nat) (ds : List Int) (w : World) (hx : Ints .u8 w w.heap.size a ds) (hw : ∀ n ∈ ds, isByte n) (hc : ds.length ≤ c) (hcm : c ≤ maxLen) :
    Calls Try.prog 30 #[.slice a ds.length c] w (DrawP1II w) := by
  have hl : ds.length ≤ maxLen := Nat.le_trans hc hcm
  go_enter Try.func30, Try.ntmps30
  go_wp2_with fail
  refine (open_any a c ds w hx hw hc hl hcm).mono ?_
  rintro e w1 ⟨rfl, r1, b1⟩
  have h1 : w.heap.size < w1.heap.size := r1.lt
  have R1 := Lib.hid r1
  have B1 := Lib.hid b1
  clear hx hw hc hcm hl r1 b1
  go_wp2_with fail
  refine (sequence_any w.heap.size 0 20 12 w1 R1.out (by omega) (by omega) (by omega) (by omega) (by omega)).mono ?_
  rintro e w2 ⟨xs, bxs, nxs, cxs, p2, rfl, lxs, s2, x2, r2, hp2, g2⟩
  obtain rfl : xs.length = nxs := x2.len
  have h2 : w.heap.size < w2.heap.size := r2.lt
  have R2 := Lib.hid r2
  have B2 := Lib.hid (below_R B1.out g2)
  have SX := Lib.hid s2
  have X2 := Lib.hid x2
  clear r2 g2 s2 x2
  go_wp2_with fail
  refine (pick_any w.heap.size p2 10 w2 R2.out (by omega) (by omega) (by omega)).mono ?_
  rintro e w3 ⟨v, ⟨v0, v1⟩, rfl, r3, g3⟩
  have h3 : w.heap.size < w3.heap.size := r3.lt
  have R3 := Lib.hid r3
  have B3 := Lib.hid (below_R B2.out g3)
  have X3 := Lib.hid (X2.out.grownR g3 h1)
  clear r3 g3
  go_wp2_with fail
  refine (pick_any w.heap.size (p2 + 1) (v + 2) w3 R3.out (by omega) (by omega) (by omega)).mono ?_
  rintro e w4 ⟨u, ⟨u0, u1⟩, rfl, r4, g4⟩
  have h4 : w.heap.size < w4.heap.size := r4.lt
  have R4 := Lib.hid r4
  have B4 := Lib.hid (below_R B3.out g4)
  have X4 := Lib.hid (X3.out.grownR g4 h1)
  clear r4 g4
  go_wp2_with fail
  refine (pick_any w.heap.size ((p2 + 1) + 1) 9 w4 R4.out (by omega) (by omega) (by omega)).mono ?_
  rintro e w5 ⟨t, ⟨t0, t1⟩, rfl, r5, g5⟩
  have h5 : w.heap.size < w5.heap.size := r5.lt
  have R5 := Lib.hid r5
  have B5 := Lib.hid (below_R B4.out g5)
  have X5 := Lib.hid (X4.out.grownR g5 h1)
  clear r5 g5
  have HQ : Hid (-1 ≤ v ∧ v ≤ 300) := ⟨by omega, by omega⟩
  obtain ⟨m, rfl⟩ := Int.eq_ofNat_of_zero_le t0
  have HU : Hid (-1 ≤ u - (m : Int) / 8 ∧ u - (m : Int) / 8 ≤ 300) := ⟨by omega, by omega⟩
  go_wp2
  go_ret3
  exact ⟨xs, bxs, cxs, v, u - (m : Int) / 8, rfl, HQ.out, HU.out, drawnL_grow X5.out (by omega) SX.out, B5.out⟩
set_option maxHeartbeats 2000000 in
theorem drawFindPatternS_any (a : Option Addr) (c : Nat) (ds : List Int) (w : World) (hx : Ints .u8 w w.heap.size a ds) (hw : ∀ n ∈ ds, isByte n) (hc : ds.length ≤ c) (hcm : c ≤ maxLen) :
    Calls Try.prog 23 #[.slice a ds.length c] w (DrawP2S w) := by
  have hl : ds.length ≤ maxLen := Nat.le_trans hc hcm
  go_enter Try.func23, Try.ntmps23
  go_wp2_with fail
  refine (open_any a c ds w hx hw hc hl hcm).mono ?_
  rintro e w1 ⟨rfl, r1, b1⟩
  have h1 : w.heap.size < w1.heap.size := r1.lt
  have R1 := Lib.hid r1
  have B1 := Lib.hid b1
  clear hx hw hc hcm hl r1 b1
  go_wp2_with fail
  refine (sequence_any w.heap.size 0 5 14 w1 R1.out (by omega) (by omega) (by omega) (by omega) (by omega)).mono ?_
  rintro e w2 ⟨ys, bys, nys, cys, p2, rfl, lys, s2, x2, r2, hp2, g2⟩
  obtain rfl : ys.length = nys := x2.len
  have h2 : w.heap.size < w2.heap.size := r2.lt
  have R2 := Lib.hid r2
  have B2 := Lib.hid (below_R B1.out g2)
  have SY := Lib.hid s2
  have Y2 := Lib.hid x2
  clear r2 g2 s2 x2
  have YB := Lib.hid Y2.out.blk
  go_wp2_with fail
  refine (sequence_any w.heap.size p2 6 14 w2 R2.out (by omega) (by omega) (by omega) (by omega) (by omega)).mono ?_
  rintro e w3 ⟨xs, bxs, nxs, cxs, p3, rfl, lxs, s3, x3, r3, hp3, g3⟩
  obtain rfl : xs.length = nxs := x3.len
  have h3 : w.heap.size < w3.heap.size := r3.lt
  have R3 := Lib.hid r3
  have B3 := Lib.hid (below_R B2.out g3)
  have SX := Lib.hid s3
  have X3 := Lib.hid x3
  have Y3 := Lib.hid (Y2.out.grownR g3 h1)
  clear r3 g3 s3 x3
  go_wp2_with fail
  refine (pick_any w.heap.size p3 2 w3 R3.out (by omega) (by omega) (by omega)).mono ?_
  rintro e w4 ⟨v, ⟨v0, v1⟩, rfl, r4, g4⟩
  have h4 : w.heap.size < w4.heap.size := r4.lt
  have R4 := Lib.hid r4
  have B4 := Lib.hid (below_R B3.out g4)
  have Y4 := Lib.hid (Y3.out.grownR g4 h1)
  have X4 := Lib.hid (X3.out.grownR g4 h2)
  clear r4 g4
  have s24 : w2.heap.size ≤ w4.heap.size := Nat.le_trans X4.out.blk.1 (Nat.le_of_lt X4.out.blk.2)
  by_cases hv : v = 0
  · subst hv
    go_wp2_with (at_builtin; refine wpList_appendA (.tmp 16) (.tmp 17) w2.heap.size (some ⟨bxs, 0, none⟩) (some ⟨bys, 0, none⟩) xs.length cxs ys.length cys w4.heap.size xs ys rfl rfl rfl rfl X4.out Y4.out.ints rfl (by omega) s24 ?_; intro a5 cap5 w5 hg5 hb5 hn5; have X5 := Lib.hid hg5; have HB5 := Lib.hid hb5; have N5 := Lib.hid hn5; clear hg5 hb5 hn5)
    obtain ⟨ax, rfl, _⟩ := X5.out.addr0 (N5.out.resolve_right (by simp))
    have R5 := Lib.hid (R4.out.below HB5.out h2)
    have Y5 := Lib.hid (Y4.out.under HB5.out YB.out.2)
    have B5 := Lib.hid (B4.out.trans (HB5.out.mono (Nat.le_of_lt h2)))
    have s25 : w2.heap.size ≤ w5.heap.size := Nat.le_trans s24 HB5.out.size
    refine (sequence_any w.heap.size _ 5 0 w5 R5.out (by omega) (by omega) (by omega) (by omega) (by omega)).mono ?_
    rintro e w6 ⟨zs, bz, nz, cz, p6, rfl, lz, s6, x6, r6, hp6, g6⟩
    obtain rfl : zs.length = nz := x6.len
    have Z6 := Lib.hid x6
    have B6 := Lib.hid (below_R B5.out g6)
    have X6 := Lib.hid (X5.out.grownR g6 h2)
    have Y6 := Lib.hid (Y5.out.grownR g6 h1)
    have SZ := Lib.hid s6
    have s26 : w2.heap.size ≤ w6.heap.size := Nat.le_trans s25 g6.size
    clear r6 g6 s6 x6
    go_wp2_with (at_builtin; refine wpList_appendA (.tmp 18) (.tmp 20) w2.heap.size (some ⟨ax, 0, none⟩) (some ⟨bz, 0, none⟩) (xs.length + ys.length) cap5 zs.length cz w6.heap.size (xs ++ ys) zs rfl rfl rfl rfl X6.out Z6.out.ints rfl (by omega) s26 ?_; intro a7 cap7 w7 hg7 hb7 hn7; have X7 := Lib.hid hg7; have HB7 := Lib.hid hb7; have N7 := Lib.hid hn7; clear hg7 hb7 hn7)
    obtain ⟨ax7, rfl, _⟩ := X7.out.addr0 (N7.out.resolve_right (by simp))
    have Y7 := Lib.hid (Y6.out.under HB7.out YB.out.2)
    have B7 := Lib.hid (B6.out.trans (HB7.out.mono (Nat.le_of_lt h2)))
    have HL : xs.length + ys.length + zs.length = (xs ++ ys ++ zs).length := by simp [Nat.add_assoc]
    have HX := Lib.hid (sml_app (sml_app SX.out SY.out) SZ.out)
    have X8 := Lib.hid X7.out
    rw [HL] at X8
    have HP : Hid (DrawP2S w (.returned (.tuple #[.slice (some ⟨ax7, 0, none⟩) (xs ++ ys ++ zs).length cap7, .slice (some ⟨bys, 0, none⟩) ys.length cys])) w7) :=
      ⟨_, ax7, cap7, ys, bys, cys, rfl, drawnL_grow X8.out (by rw [← HL]; omega) HX.out, drawnL_grow Y7.out (by omega) SY.out, B7.out, lys⟩
    rw [← HL] at HP
    clear HL
    go_wp2
    go_ret2
    exact HP.out
  · have hv' : (v == 0) = false := by simpa using hv
    go_wp2
    go_ret2
    exact ⟨xs, bxs, cxs, ys, bys, cys, rfl, drawnL_grow X4.out (by omega) SX.out, drawnL_grow Y4.out (by omega) SY.out, B4.out, lys⟩
theorem drawFindPattern_any (a : Option Addr) (c : Nat) (ds : List Int) (w : World) (hx : Ints .u8 w w.heap.size a ds) (hw : ∀ n ∈ ds, isByte n) (hc : ds.length ≤ c) (hcm : c ≤ maxLen) :
    Calls Try.prog 23 #[.slice a ds.length c] w (DrawP2 w) := (drawFindPatternS_any a c ds w hx hw hc hcm).mono fun _ _ h => by
  obtain ⟨xs, b, c, ys, b', c', h1, h2, h3, h4, _⟩ := h
  exact ⟨xs, b, c, ys, b', c', h1, h2, h3, h4⟩
set_option maxHeartbeats 4000000 in
theorem drawUndoFilter_any (a : Option Addr) (c : Nat) (ds : List Int) (w : World) (hx : Ints .u8 w w.heap.size a ds) (hw : ∀ n ∈ ds, isByte n) (hc : ds.length ≤ c) (hcm : c ≤ maxLen) :
    Calls Try.prog 32 #[.slice a ds.length c] w (DrawP2 w) := by
  have hl : ds.length ≤ maxLen := Nat.le_trans hc hcm
  go_enter Try.func32, Try.ntmps32
  go_wp2_with fail
  refine (open_any a c ds w hx hw hc hl hcm).mono ?_
  rintro e w1 ⟨rfl, r1, b1⟩
  have h1 : w.heap.size < w1.heap.size := r1.lt
  have R1 := Lib.hid r1
  have B1 := Lib.hid b1
  clear hx hw hc hcm hl r1 b1
  go_wp2_with fail
  refine (pick_any w.heap.size 0 4 _ (R1.out.alloc _) (by omega) (by omega) (by omega)).mono ?_
  rintro e w2 ⟨v, ⟨v0, v1⟩, rfl, r2, g2⟩
  obtain ⟨q0, rfl⟩ := Int.eq_ofNat_of_zero_le v0
  have R2 := Lib.hid r2
  have G2 := Lib.hid (grown_trans (grown_alloc (World.grownBy.refl w1 (some w.heap.size)) _) g2)
  have F2 := Lib.hid ((grow_litQ w1 w1.heap.size 1 (Nat.le_refl _)).grownR g2 h1)
  clear r2 g2
  go_wp2
  go_loopw [5, 6] (fun s i wr => ∃ (q m : Nat) (bf cap p' : Nat) (fs : List Int), i = .int .i64 q ∧ s = .slice (some ⟨bf, 0, none⟩) m cap ∧ (q + m ≤ 4 ∧ 1 ≤ m ∧ p' ≤ m) ∧ (∀ x ∈ fs, sml x) ∧ Grow .i64 3 wr w1.heap.size (some ⟨bf, 0, none⟩) m cap fs ∧ Rd wr w.heap.size p' ∧ w1.grownBy wr (some w.heap.size)) (fun _ i _ => (intOf i).toNat)
  case atStart => exact ⟨q0, 1, _, _, 1, [1], rfl, rfl, ⟨by omega, by omega, by omega⟩, (fun x hx => by simp at hx; subst hx; unfold sml; omega), F2.out, R2.out, G2.out⟩
  case round =>
    obtain ⟨q, m, bf, cap, p', fs, rfl, rfl, ⟨hq1, hm1, hp1⟩, hsm, hgr, hrd, hgn⟩ := hrel
    have HF := Lib.hid hgr
    have HR := Lib.hid hrd
    have HN := Lib.hid hgn
    have HS := Lib.hid hsm
    have hsz : w1.heap.size ≤ wr.heap.size := hgn.size
    clear hgr hrd hgn hsm R1 R2 G2 F2
    by_cases hq : 0 < q
    · have hqi : 0 < (q : Int) := by omega
      go_wp2_with fail
      refine (pick_any w.heap.size p' 3 wr HR.out (by omega) (by omega) (by omega)).mono ?_
      rintro e w3 ⟨x, ⟨x0, x1⟩, rfl, r3, g3⟩
      have R3 := Lib.hid r3
      have N3 := Lib.hid (grown_trans HN.out g3)
      have F3 := Lib.hid (HF.out.grownR g3 h1)
      have HX := Lib.hid (sml_snoc HS.out (show sml (x - 1) by unfold sml; omega))
      have hsz3 : w1.heap.size ≤ w3.heap.size := N3.out.size
      clear r3 g3
      go_wp2_with (at_builtin; refine wpList_append1 (.tmp 18) (.tmp 22) w1.heap.size (some ⟨bf, 0, none⟩) m cap fs ⟨w3.heap.size, 0, none⟩ (x - 1) rfl rfl rfl rfl (F3.out.alloc _) (by simp) (by omega) (by simp; omega) ?_; intro a5 cap5 w5 hg5 hb5; have F5 := Lib.hid hg5; have HB5 := Lib.hid hb5; clear hg5 hb5)
      go_roundw
      case rel =>
        obtain ⟨bf5, rfl⟩ := F5.out.addrS
        exact ⟨q - 1, m + 1, bf5, cap5, p' + 1, _, by congr 1; omega, rfl, ⟨by omega, by omega, by omega⟩, HX.out, F5.out, (R3.out.alloc _).below HB5.out h1, grown_below (grown_alloc N3.out _) HB5.out (Nat.le_refl _)⟩
      case measure => simp [intOf]; omega
    · obtain rfl : q = 0 := by omega
      go_wp2_with fail
      refine (odd_any w.heap.size p' 9 wr HR.out (by omega) (by omega) (by omega)).mono ?_
      rintro e w3 ⟨b, rfl, r3, g3⟩
      have R3 := Lib.hid r3
      have N3 := Lib.hid (grown_trans HN.out g3)
      have F3 := Lib.hid (HF.out.grownR g3 h1)
      have hsz3 : w1.heap.size ≤ w3.heap.size := N3.out.size
      have h3 : w.heap.size < w3.heap.size := r3.lt
      clear r3 g3 HF HR HN
      cases b
      · obtain ⟨P, hP⟩ : ∃ P, P = p' + 1 := ⟨_, rfl⟩
        have hP6 : P ≤ 8 := by omega
        rw [← hP] at R3
        clear hP
        go_wp2_with fail
        refine (sequence_any w.heap.size P 9 14 w3 R3.out (by omega) (by omega) (by omega) (by omega) (by omega)).mono ?_
        rintro e w6 ⟨xs, bx, nx, cx, p6, rfl, lx, s6, x6, r6, hp6, g6⟩
        obtain rfl : xs.length = nx := x6.len
        have R6 := Lib.hid r6
        have N6 := Lib.hid (grown_trans N3.out g6)
        have F6 := Lib.hid (F3.out.grownR g6 h1)
        have X6 := Lib.hid x6
        have SX := Lib.hid s6
        have h3' : w.heap.size < w3.heap.size := Nat.lt_of_lt_of_le h1 N3.out.size
        clear r6 g6 s6 x6
        go_wp2_with fail
        refine (pick_any w.heap.size p6 2 w6 R6.out (by omega) (by omega) (by omega)).mono ?_
        rintro e w7 ⟨y, ⟨y0, y1⟩, rfl, r7, g7⟩
        have R7 := Lib.hid r7
        have N7 := Lib.hid (grown_trans N6.out g7)
        have F7 := Lib.hid (F6.out.grownR g7 h1)
        have X7 := Lib.hid (X6.out.grownR g7 h3')
        clear r7 g7
        by_cases hy : y = 0
        · subst hy
          go_wp2_with fail
          refine (pick_any w.heap.size (p6 + 1) 9 _ (R7.out.alloc _) (by omega) (by omega) (by omega)).mono ?_
          rintro e w8 ⟨y, ⟨y0, y1⟩, rfl, r8, g8⟩
          obtain ⟨q8, rfl⟩ := Int.eq_ofNat_of_zero_le y0
          have s17 : w1.heap.size ≤ w7.heap.size := N7.out.size
          have h7 : w.heap.size < w7.heap.size := Nat.lt_of_lt_of_le h1 s17
          have R8 := Lib.hid r8
          have N8 := Lib.hid (grown_trans (grown_alloc N7.out _) g8)
          have F8 := Lib.hid ((F7.out.alloc _).grownR g8 h1)
          have A8 := Lib.hid ((Grow.lit0 .i64 3 w7 w7.heap.size (Nat.le_refl _)).grownR g8 h7)
          have FB := Lib.hid F7.out.blk.2
          clear r8 g8
          go_wp2
          go_loopw [7, 8] (fun s i wr => ∃ (q n : Nat) (bx cap2 p' : Nat) (xs : List Int), i = .int .i64 q ∧ s = .slice (some ⟨bx, 0, none⟩) n cap2 ∧ (q + n ≤ 9 ∧ p' ≤ p6 + 2 + n) ∧ (∀ x ∈ xs, sml x) ∧ Grow .i64 3 wr w7.heap.size (some ⟨bx, 0, none⟩) n cap2 xs ∧ Grow .i64 3 wr w1.heap.size (some ⟨bf, 0, none⟩) m cap fs ∧ Rd wr w.heap.size p' ∧ w1.grownBy wr (some w.heap.size)) (fun _ i _ => (intOf i).toNat)
          case atStart => exact ⟨q8, 0, _, _, p6 + 1 + 1, [], rfl, rfl, ⟨by omega, by omega⟩, by simp, A8.out, F8.out, R8.out, N8.out⟩
          case round =>
            obtain ⟨q, n, bx, cap2, p', xs, rfl, rfl, ⟨hq1, hp1⟩, hsm, hgr, hgf, hrd, hgn⟩ := hrel
            have HX := Lib.hid hgr
            have HF := Lib.hid hgf
            have HR := Lib.hid hrd
            have HN := Lib.hid hgn
            have HS2 := Lib.hid hsm
            have hl2 := hgr.len
            have hlf := hgf.len
            have h7r : w7.heap.size ≤ wr.heap.size := Nat.le_trans hgr.blk.1 (Nat.le_of_lt hgr.blk.2)
            clear hgr hgf hrd hgn hsm R8 N8 F8 A8 R7 N7 F7 X7 R6 N6 F6 X6
            by_cases hq : 0 < q
            · have hqi : 0 < (q : Int) := by omega
              clear hl2 hlf
              go_wp2_with fail
              refine (pick_any w.heap.size p' 21 wr HR.out (by omega) (by omega) (by omega)).mono ?_
              rintro e w9 ⟨x, ⟨x0, x1⟩, rfl, r9, g9⟩
              have R9 := Lib.hid r9
              have N9 := Lib.hid (grown_trans HN.out g9)
              have X9 := Lib.hid (HX.out.grownR g9 h7)
              have F9 := Lib.hid (HF.out.grownR g9 h1)
              have HX2 := Lib.hid (sml_snoc HS2.out (show sml (x - 10) by unfold sml; omega))
              have h79 : w7.heap.size ≤ w9.heap.size := Nat.le_trans h7r g9.size
              clear r9 g9
              go_wp2_with (at_builtin; refine wpList_append1 (.tmp 45) (.tmp 49) w7.heap.size (some ⟨bx, 0, none⟩) n cap2 xs ⟨w9.heap.size, 0, none⟩ (x - 10) rfl rfl rfl rfl (X9.out.alloc _) (by simp) (by omega) (by simp; omega) ?_; intro a5 cap5 w5 hg5 hb5; have X5 := Lib.hid hg5; have HB5 := Lib.hid hb5; clear hg5 hb5)
              go_roundw
              case rel =>
                obtain ⟨bx5, rfl⟩ := X5.out.addrS
                exact ⟨q - 1, n + 1, bx5, cap5, p' + 1, _, by congr 1; omega, rfl, ⟨by omega, by omega⟩, HX2.out, X5.out, (F9.out.alloc _).under HB5.out FB.out, (R9.out.alloc _).below HB5.out h7, grown_below (grown_alloc N9.out _) HB5.out s17⟩
              case measure => simp [intOf]; omega
            · obtain rfl : q = 0 := by omega
              subst hl2
              have HP := Lib.hid (show DrawP2 w (.returned (.tuple #[.slice (some ⟨bx, 0, none⟩) xs.length cap2, .slice (some ⟨bf, 0, none⟩) m cap])) wr by
                subst hlf
                exact ⟨xs, bx, cap2, fs, bf, cap, rfl, drawnL_grow HX.out (by omega) HS2.out, drawnL_grow HF.out (by omega) HS.out, below_R B1.out HN.out⟩)
              clear hlf
              go_wp2
              go_ret2
              exact HP.out
        · have hy' : (y == 0) = false := by simpa using hy
          have HP := Lib.hid (show DrawP2 w (.returned (.tuple #[.slice (some ⟨bx, 0, none⟩) xs.length cx, .slice (some ⟨bf, 0, none⟩) m cap])) w7 by
            have hlf := F7.out.len
            subst hlf
            exact ⟨xs, bx, cx, fs, bf, cap, rfl, drawnL_grow X7.out (by omega) SX.out, drawnL_grow F7.out (by omega) HS.out, below_R B1.out N7.out⟩)
          go_wp2
          go_ret2
          exact HP.out
      · go_wp2_with fail
        refine (pick_any w.heap.size (p' + 1) 3 _ (R3.out.alloc _) (by omega) (by omega) (by omega)).mono ?_
        rintro e w4 ⟨y, ⟨y0, y1⟩, rfl, r4, g4⟩
        obtain ⟨k, rfl⟩ := Int.eq_ofNat_of_zero_le y0
        have hk : k < 3 := by omega
        have hcell : ∃ z : Int, w4.cell? ⟨w3.heap.size, k, none⟩ = some (.int .i64 z) ∧ sml z := by
          rw [World.cell?_of_block (g4.block w3.heap.size (by simp) (fun e => by injection e; omega)), cell_of_row _ _ _ _ _ _ (heap_alloc_last w3 _)]
          match k, hk with
          | 0, _ => exact ⟨_, rfl, by unfold sml; omega⟩
          | 1, _ => exact ⟨_, rfl, by unfold sml; omega⟩
          | 2, _ => exact ⟨_, rfl, by unfold sml; omega⟩
          | (m + 3), h => exact absurd h (by omega)
        obtain ⟨z, hc, hz⟩ := hcell
        have N4 := Lib.hid (grown_trans (grown_alloc N3.out _) g4)
        have F4 := Lib.hid ((F3.out.alloc _).grownR g4 h1)
        obtain ⟨⟨u, hcu⟩, hfu⟩ := grow_cell F4.out (i := 0) hm1
        have hSB := (Below.refl w1.heap.size w4).setCell (p := ⟨bf, 0, none⟩) F4.out.blk.1 (.int .i64 z)
        have F5 := Lib.hid (F4.out.set 0 z)
        have R5 := Lib.hid (r4.below hSB h1)
        have N5 := Lib.hid (grown_below N4.out hSB (Nat.le_refl _))
        have HS5 := Lib.hid (sml_set (j := 0) HS.out hz)
        have hm0 : 0 < m := hm1
        clear r4 g4 hSB hz HS
        go_wp2_with fail
        clear hc hcu hfu
        have HS := HS5
        clear HS5
        obtain ⟨P, hP⟩ : ∃ P, P = p' + 1 + 1 := ⟨_, rfl⟩
        have hP6 : P ≤ 8 := by omega
        rw [← hP] at R5
        clear hP F3 R3 N3 N4 F4
        generalize fs.set 0 z = fs at *
        generalize w4.setCell ⟨bf, 0, none⟩ (.int .i64 z) = w3 at *
        have F3 := F5
        have R3 := R5
        have N3 := N5
        clear F5 R5 N5
        refine (sequence_any w.heap.size P 9 14 w3 R3.out (by omega) (by omega) (by omega) (by omega) (by omega)).mono ?_
        rintro e w6 ⟨xs, bx, nx, cx, p6, rfl, lx, s6, x6, r6, hp6, g6⟩
        obtain rfl : xs.length = nx := x6.len
        have R6 := Lib.hid r6
        have N6 := Lib.hid (grown_trans N3.out g6)
        have F6 := Lib.hid (F3.out.grownR g6 h1)
        have X6 := Lib.hid x6
        have SX := Lib.hid s6
        have h3' : w.heap.size < w3.heap.size := Nat.lt_of_lt_of_le h1 N3.out.size
        clear r6 g6 s6 x6
        go_wp2_with fail
        refine (pick_any w.heap.size p6 2 w6 R6.out (by omega) (by omega) (by omega)).mono ?_
        rintro e w7 ⟨y, ⟨y0, y1⟩, rfl, r7, g7⟩
        have R7 := Lib.hid r7
        have N7 := Lib.hid (grown_trans N6.out g7)
        have F7 := Lib.hid (F6.out.grownR g7 h1)
        have X7 := Lib.hid (X6.out.grownR g7 h3')
        clear r7 g7
        by_cases hy : y = 0
        · subst hy
          go_wp2_with fail
          refine (pick_any w.heap.size (p6 + 1) 9 _ (R7.out.alloc _) (by omega) (by omega) (by omega)).mono ?_
          rintro e w8 ⟨y, ⟨y0, y1⟩, rfl, r8, g8⟩
          obtain ⟨q8, rfl⟩ := Int.eq_ofNat_of_zero_le y0
          have s17 : w1.heap.size ≤ w7.heap.size := N7.out.size
          have h7 : w.heap.size < w7.heap.size := Nat.lt_of_lt_of_le h1 s17
          have R8 := Lib.hid r8
          have N8 := Lib.hid (grown_trans (grown_alloc N7.out _) g8)
          have F8 := Lib.hid ((F7.out.alloc _).grownR g8 h1)
          have A8 := Lib.hid ((Grow.lit0 .i64 3 w7 w7.heap.size (Nat.le_refl _)).grownR g8 h7)
          have FB := Lib.hid F7.out.blk.2
          clear r8 g8
          go_wp2
          go_loopw [7, 8] (fun s i wr => ∃ (q n : Nat) (bx cap2 p' : Nat) (xs : List Int), i = .int .i64 q ∧ s = .slice (some ⟨bx, 0, none⟩) n cap2 ∧ (q + n ≤ 9 ∧ p' ≤ p6 + 2 + n) ∧ (∀ x ∈ xs, sml x) ∧ Grow .i64 3 wr w7.heap.size (some ⟨bx, 0, none⟩) n cap2 xs ∧ Grow .i64 3 wr w1.heap.size (some ⟨bf, 0, none⟩) m cap fs ∧ Rd wr w.heap.size p' ∧ w1.grownBy wr (some w.heap.size)) (fun _ i _ => (intOf i).toNat)
          case atStart => exact ⟨q8, 0, _, _, p6 + 1 + 1, [], rfl, rfl, ⟨by omega, by omega⟩, by simp, A8.out, F8.out, R8.out, N8.out⟩
          case round =>
            obtain ⟨q, n, bx, cap2, p', xs, rfl, rfl, ⟨hq1, hp1⟩, hsm, hgr, hgf, hrd, hgn⟩ := hrel
            have HX := Lib.hid hgr
            have HF := Lib.hid hgf
            have HR := Lib.hid hrd
            have HN := Lib.hid hgn
            have HS2 := Lib.hid hsm
            have hl2 := hgr.len
            have hlf := hgf.len
            have h7r : w7.heap.size ≤ wr.heap.size := Nat.le_trans hgr.blk.1 (Nat.le_of_lt hgr.blk.2)
            clear hgr hgf hrd hgn hsm R8 N8 F8 A8 R7 N7 F7 X7 R6 N6 F6 X6
            by_cases hq : 0 < q
            · have hqi : 0 < (q : Int) := by omega
              clear hl2 hlf
              go_wp2_with fail
              refine (pick_any w.heap.size p' 21 wr HR.out (by omega) (by omega) (by omega)).mono ?_
              rintro e w9 ⟨x, ⟨x0, x1⟩, rfl, r9, g9⟩
              have R9 := Lib.hid r9
              have N9 := Lib.hid (grown_trans HN.out g9)
              have X9 := Lib.hid (HX.out.grownR g9 h7)
              have F9 := Lib.hid (HF.out.grownR g9 h1)
              have HX2 := Lib.hid (sml_snoc HS2.out (show sml (x - 10) by unfold sml; omega))
              have h79 : w7.heap.size ≤ w9.heap.size := Nat.le_trans h7r g9.size
              clear r9 g9
              go_wp2_with (at_builtin; refine wpList_append1 (.tmp 45) (.tmp 49) w7.heap.size (some ⟨bx, 0, none⟩) n cap2 xs ⟨w9.heap.size, 0, none⟩ (x - 10) rfl rfl rfl rfl (X9.out.alloc _) (by simp) (by omega) (by simp; omega) ?_; intro a5 cap5 w5 hg5 hb5; have X5 := Lib.hid hg5; have HB5 := Lib.hid hb5; clear hg5 hb5)
              go_roundw
              case rel =>
                obtain ⟨bx5, rfl⟩ := X5.out.addrS
                exact ⟨q - 1, n + 1, bx5, cap5, p' + 1, _, by congr 1; omega, rfl, ⟨by omega, by omega⟩, HX2.out, X5.out, (F9.out.alloc _).under HB5.out FB.out, (R9.out.alloc _).below HB5.out h7, grown_below (grown_alloc N9.out _) HB5.out s17⟩
              case measure => simp [intOf]; omega
            · obtain rfl : q = 0 := by omega
              subst hl2
              have HP := Lib.hid (show DrawP2 w (.returned (.tuple #[.slice (some ⟨bx, 0, none⟩) xs.length cap2, .slice (some ⟨bf, 0, none⟩) m cap])) wr by
                subst hlf
                exact ⟨xs, bx, cap2, fs, bf, cap, rfl, drawnL_grow HX.out (by omega) HS2.out, drawnL_grow HF.out (by omega) HS.out, below_R B1.out HN.out⟩)
              clear hlf
              go_wp2
              go_ret2
              exact HP.out
        · have hy' : (y == 0) = false := by simpa using hy
          have HP := Lib.hid (show DrawP2 w (.returned (.tuple #[.slice (some ⟨bx, 0, none⟩) xs.length cx, .slice (some ⟨bf, 0, none⟩) m cap])) w7 by
            have hlf := F7.out.len
            subst hlf
            exact ⟨xs, bx, cx, fs, bf, cap, rfl, drawnL_grow X7.out (by omega) SX.out, drawnL_grow F7.out (by omega) HS.out, below_R B1.out N7.out⟩)
          go_wp2
          go_ret2
          exact HP.out
end Go.Proofs.Ytdnnpnaaohfgaaa
