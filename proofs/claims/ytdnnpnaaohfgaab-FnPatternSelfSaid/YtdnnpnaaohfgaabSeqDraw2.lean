/-
  What the laws of chapter 10 draw. No condition.
-/
import Derived.Test.YtdnnpnaaohfgaabSeqDraw
import Derived.Test.YtdnnpnaaohfgaabAppendA
namespace Go.Proofs.Ytdnnpnaaohfgaab
open Go.RowKit

/-- A drawn list in memory: at the beginning of a block, its numbers small. -/
def DrawnL (w : World) (b c : Nat) (xs : List Int) : Prop :=
  xs.length ≤ 300 ∧ (xs.length ≤ c ∧ c ≤ maxLen) ∧ (∀ x ∈ xs, sml x) ∧ Ints .i64 w w.heap.size (some ⟨b, 0, none⟩) xs
theorem drawnL_grow {w : World} {base b c : Nat} {xs : List Int} (h : Grow .i64 3 w base (some ⟨b, 0, none⟩) xs.length c xs) (hl : xs.length ≤ 300) (hs : ∀ x ∈ xs, sml x) : DrawnL w b c xs := ⟨hl, h.room, hs, h.ints⟩
/-- What drawing leaves: a list; two lists; lists and numbers. -/
def DrawP1 (w : World) (e : Ending) (w' : World) : Prop :=
  ∃ xs b c, e = .returned (.slice (some ⟨b, 0, none⟩) xs.length c) ∧ DrawnL w' b c xs ∧ Below w.heap.size w w'
def DrawP2 (w : World) (e : Ending) (w' : World) : Prop :=
  ∃ xs b c ys b' c', e = .returned (.tuple #[.slice (some ⟨b, 0, none⟩) xs.length c, .slice (some ⟨b', 0, none⟩) ys.length c']) ∧ DrawnL w' b c xs ∧ DrawnL w' b' c' ys ∧ Below w.heap.size w w'
def DrawP2S (w : World) (e : Ending) (w' : World) : Prop :=
  ∃ xs b c ys b' c', e = .returned (.tuple #[.slice (some ⟨b, 0, none⟩) xs.length c, .slice (some ⟨b', 0, none⟩) ys.length c']) ∧ DrawnL w' b c xs ∧ DrawnL w' b' c' ys ∧ Below w.heap.size w w' ∧ (ys.length ≤ 21 ∨ ys.length = 65)
def DrawP2I (w : World) (e : Ending) (w' : World) : Prop :=
  ∃ xs b c ys b' c' q, e = .returned (.tuple #[.slice (some ⟨b, 0, none⟩) xs.length c, .slice (some ⟨b', 0, none⟩) ys.length c', .int .i64 q]) ∧ (-1 ≤ q ∧ q ≤ 300) ∧ DrawnL w' b c xs ∧ DrawnL w' b' c' ys ∧ Below w.heap.size w w'
def DrawP1I (w : World) (e : Ending) (w' : World) : Prop :=
  ∃ xs b c q, e = .returned (.tuple #[.slice (some ⟨b, 0, none⟩) xs.length c, .int .i64 q]) ∧ (-1 ≤ q ∧ q ≤ 300) ∧ DrawnL w' b c xs ∧ Below w.heap.size w w'
def DrawP1II (w : World) (e : Ending) (w' : World) : Prop :=
  ∃ xs b c q r, e = .returned (.tuple #[.slice (some ⟨b, 0, none⟩) xs.length c, .int .i64 q, .int .i64 r]) ∧ (-1 ≤ q ∧ q ≤ 300) ∧ (-1 ≤ r ∧ r ≤ 300) ∧ DrawnL w' b c xs ∧ Below w.heap.size w w'
theorem Grow.under {k : IntKind} {t : TypeId} {w w' : World} {base n cap g B : Nat} {xs : List Int} (h : Grow k t w base (some ⟨g, 0, none⟩) n cap xs) (hb : Below B w w') (hlt : g < B) : Grow k t w' base (some ⟨g, 0, none⟩) n cap xs := by
  refine ⟨h.1, ?_⟩
  rcases h.2 with ⟨e, _⟩ | ⟨g', c, cur, e, hg, hh, rest⟩
  · injection e with e; cases e
  · have e0 := e
    injection e with e1
    injection e1 with e1
    injection e1 with e1
    subst e1
    exact .inr ⟨g, c, cur, e0, hg, (hb.block g hlt).trans hh, rest⟩
theorem Grow.blk {k : IntKind} {t : TypeId} {w : World} {base g n cap : Nat} {xs : List Int} (h : Grow k t w base (some ⟨g, 0, none⟩) n cap xs) : base ≤ g ∧ g < w.heap.size := World.ownsRow.lt h g rfl
theorem sml_app {xs ys : List Int} (h : ∀ y ∈ xs, sml y) (h2 : ∀ y ∈ ys, sml y) : ∀ y ∈ xs ++ ys, sml y := fun y hy => by
  rcases List.mem_append.1 hy with hy | hy
  · exact h y hy
  · exact h2 y hy
theorem sml_set {xs : List Int} {x : Int} {j : Nat} (h : ∀ y ∈ xs, sml y) (hx : sml x) : ∀ y ∈ xs.set j x, sml y := fun y hy => by
  rcases List.mem_or_eq_of_mem_set hy with hy | rfl
  · exact h y hy
  · exact hx
theorem grow_litQ (w : World) (base : Nat) (a : Int) (hb : base ≤ w.heap.size) : Grow .i64 3 (w.alloc (.cells #[.int .i64 a] 3)) base (some ⟨w.heap.size, 0, none⟩) 1 1 [a] :=
  ⟨rfl, .inr ⟨w.heap.size, 1, #[.int .i64 a], rfl, hb, heap_alloc_last _ _, Nat.le_refl _, by unfold maxLen; omega, rfl, rfl⟩⟩
set_option maxHeartbeats 1000000 in
theorem drawFilterSequence_any (a : Option Addr) (c : Nat) (ds : List Int) (w : World) (hx : Ints .u8 w w.heap.size a ds) (hw : ∀ n ∈ ds, isByte n) (hc : ds.length ≤ c) (hcm : c ≤ maxLen) :
    Calls Try.prog 12 #[.slice a ds.length c] w (DrawP2 w) := by
  have hl : ds.length ≤ maxLen := Nat.le_trans hc hcm
  go_enter Try.func12, Try.ntmps12
  go_wp2_with fail
  refine (open_any a c ds w hx hw hc hl hcm).mono ?_
  rintro e w1 ⟨rfl, r1, b1⟩
  have h1 : w.heap.size < w1.heap.size := r1.lt
  have R1 := Lib.hid r1
  have B1 := Lib.hid b1
  clear hx hw hc hcm hl r1 b1
  go_wp2_with fail
  refine (sequence_any w.heap.size 0 9 12 w1 R1.out (by omega) (by omega) (by omega) (by omega) (by omega)).mono ?_
  rintro e w2 ⟨xs, bxs, nxs, cxs, p2, rfl, lxs, s2, x2, r2, hp2, g2⟩
  obtain rfl : xs.length = nxs := x2.len
  have h2 : w.heap.size < w2.heap.size := r2.lt
  have R2 := Lib.hid r2
  have B2 := Lib.hid (below_R B1.out g2)
  have SX := Lib.hid s2
  have X2 := Lib.hid x2
  clear r2 g2 s2 x2
  go_wp2_with fail
  refine (sequence_any w.heap.size p2 5 12 w2 R2.out (by omega) (by omega) (by omega) (by omega) (by omega)).mono ?_
  rintro e w3 ⟨ys, bys, nys, cys, p3, rfl, lys, s3, x3, r3, hp3, g3⟩
  obtain rfl : ys.length = nys := x3.len
  have h3 : w.heap.size < w3.heap.size := r3.lt
  have R3 := Lib.hid r3
  have B3 := Lib.hid (below_R B2.out g3)
  have SY := Lib.hid s3
  have Y3 := Lib.hid x3
  have X3 := Lib.hid (X2.out.grownR g3 h1)
  clear r3 g3 s3 x3
  go_wp2
  go_ret2
  exact ⟨xs, bxs, cxs, ys, bys, cys, rfl, drawnL_grow X3.out (by omega) SX.out, drawnL_grow Y3.out (by omega) SY.out, B3.out⟩
set_option maxHeartbeats 2000000 in
theorem drawFindPatternS_any (a : Option Addr) (c : Nat) (ds : List Int) (w : World) (hx : Ints .u8 w w.heap.size a ds) (hw : ∀ n ∈ ds, isByte n) (hc : ds.length ≤ c) (hcm : c ≤ maxLen) :
    Calls Try.prog 17 #[.slice a ds.length c] w (DrawP2S w) := by
  have hl : ds.length ≤ maxLen := Nat.le_trans hc hcm
  go_enter Try.func17, Try.ntmps17
  go_wp2_with fail
  refine (open_any a c ds w hx hw hc hl hcm).mono ?_
  rintro e w1 ⟨rfl, r1, b1⟩
  have h1 : w.heap.size < w1.heap.size := r1.lt
  have R1 := Lib.hid r1
  have B1 := Lib.hid b1
  clear hx hw hc hcm hl r1 b1
  go_wp2_with fail
  refine (sequence_any w.heap.size 0 5 14 w1 R1.out (by omega) (by omega) (by omega) (by omega) (by omega)).mono ?_
  rintro e w2 ⟨ys, bys, nys, cys, p2, rfl, lys, s2, x2, r2, hp2, g2⟩
  obtain rfl : ys.length = nys := x2.len
  have h2 : w.heap.size < w2.heap.size := r2.lt
  have R2 := Lib.hid r2
  have B2 := Lib.hid (below_R B1.out g2)
  have SY := Lib.hid s2
  have Y2 := Lib.hid x2
  clear r2 g2 s2 x2
  have YB := Lib.hid Y2.out.blk
  go_wp2_with fail
  refine (sequence_any w.heap.size p2 6 14 w2 R2.out (by omega) (by omega) (by omega) (by omega) (by omega)).mono ?_
  rintro e w3 ⟨xs, bxs, nxs, cxs, p3, rfl, lxs, s3, x3, r3, hp3, g3⟩
  obtain rfl : xs.length = nxs := x3.len
  have h3 : w.heap.size < w3.heap.size := r3.lt
  have R3 := Lib.hid r3
  have B3 := Lib.hid (below_R B2.out g3)
  have SX := Lib.hid s3
  have X3 := Lib.hid x3
  have Y3 := Lib.hid (Y2.out.grownR g3 h1)
  clear r3 g3 s3 x3
  go_wp2_with fail
  refine (pick_any w.heap.size p3 2 w3 R3.out (by omega) (by omega) (by omega)).mono ?_
  rintro e w4 ⟨v, ⟨v0, v1⟩, rfl, r4, g4⟩
  have h4 : w.heap.size < w4.heap.size := r4.lt
  have R4 := Lib.hid r4
  have B4 := Lib.hid (below_R B3.out g4)
  have Y4 := Lib.hid (Y3.out.grownR g4 h1)
  have X4 := Lib.hid (X3.out.grownR g4 h2)
  clear r4 g4
  have s24 : w2.heap.size ≤ w4.heap.size := Nat.le_trans X4.out.blk.1 (Nat.le_of_lt X4.out.blk.2)
  by_cases hv : v = 0
  · subst hv
    go_wp2_with (at_builtin; refine wpList_appendA (.tmp 16) (.tmp 17) w2.heap.size (some ⟨bxs, 0, none⟩) (some ⟨bys, 0, none⟩) xs.length cxs ys.length cys w4.heap.size xs ys rfl rfl rfl rfl X4.out Y4.out.ints rfl (by omega) s24 ?_; intro a5 cap5 w5 hg5 hb5 hn5; have X5 := Lib.hid hg5; have HB5 := Lib.hid hb5; have N5 := Lib.hid hn5; clear hg5 hb5 hn5)
    obtain ⟨ax, rfl, _⟩ := X5.out.addr0 (N5.out.resolve_right (by simp))
    have R5 := Lib.hid (R4.out.below HB5.out h2)
    have Y5 := Lib.hid (Y4.out.under HB5.out YB.out.2)
    have B5 := Lib.hid (B4.out.trans (HB5.out.mono (Nat.le_of_lt h2)))
    have s25 : w2.heap.size ≤ w5.heap.size := Nat.le_trans s24 HB5.out.size
    refine (sequence_any w.heap.size _ 5 0 w5 R5.out (by omega) (by omega) (by omega) (by omega) (by omega)).mono ?_
    rintro e w6 ⟨zs, bz, nz, cz, p6, rfl, lz, s6, x6, r6, hp6, g6⟩
    obtain rfl : zs.length = nz := x6.len
    have Z6 := Lib.hid x6
    have B6 := Lib.hid (below_R B5.out g6)
    have X6 := Lib.hid (X5.out.grownR g6 h2)
    have Y6 := Lib.hid (Y5.out.grownR g6 h1)
    have SZ := Lib.hid s6
    have s26 : w2.heap.size ≤ w6.heap.size := Nat.le_trans s25 g6.size
    clear r6 g6 s6 x6
    go_wp2_with (at_builtin; refine wpList_appendA (.tmp 18) (.tmp 20) w2.heap.size (some ⟨ax, 0, none⟩) (some ⟨bz, 0, none⟩) (xs.length + ys.length) cap5 zs.length cz w6.heap.size (xs ++ ys) zs rfl rfl rfl rfl X6.out Z6.out.ints rfl (by omega) s26 ?_; intro a7 cap7 w7 hg7 hb7 hn7; have X7 := Lib.hid hg7; have HB7 := Lib.hid hb7; have N7 := Lib.hid hn7; clear hg7 hb7 hn7)
    obtain ⟨ax7, rfl, _⟩ := X7.out.addr0 (N7.out.resolve_right (by simp))
    have Y7 := Lib.hid (Y6.out.under HB7.out YB.out.2)
    have B7 := Lib.hid (B6.out.trans (HB7.out.mono (Nat.le_of_lt h2)))
    have HL : xs.length + ys.length + zs.length = (xs ++ ys ++ zs).length := by simp [Nat.add_assoc]
    have HX := Lib.hid (sml_app (sml_app SX.out SY.out) SZ.out)
    have X8 := Lib.hid X7.out
    rw [HL] at X8
    have HP : Hid (DrawP2S w (.returned (.tuple #[.slice (some ⟨ax7, 0, none⟩) (xs ++ ys ++ zs).length cap7, .slice (some ⟨bys, 0, none⟩) ys.length cys])) w7) :=
      ⟨_, ax7, cap7, ys, bys, cys, rfl, drawnL_grow X8.out (by rw [← HL]; omega) HX.out, drawnL_grow Y7.out (by omega) SY.out, B7.out, lys⟩
    rw [← HL] at HP
    clear HL
    go_wp2
    go_ret2
    exact HP.out
  · have hv' : (v == 0) = false := by simpa using hv
    go_wp2
    go_ret2
    exact ⟨xs, bxs, cxs, ys, bys, cys, rfl, drawnL_grow X4.out (by omega) SX.out, drawnL_grow Y4.out (by omega) SY.out, B4.out, lys⟩
theorem drawFindPattern_any (a : Option Addr) (c : Nat) (ds : List Int) (w : World) (hx : Ints .u8 w w.heap.size a ds) (hw : ∀ n ∈ ds, isByte n) (hc : ds.length ≤ c) (hcm : c ≤ maxLen) :
    Calls Try.prog 17 #[.slice a ds.length c] w (DrawP2 w) := (drawFindPatternS_any a c ds w hx hw hc hcm).mono fun _ _ h => by
  obtain ⟨xs, b, c, ys, b', c', h1, h2, h3, h4, _⟩ := h
  exact ⟨xs, b, c, ys, b', c', h1, h2, h3, h4⟩
end Go.Proofs.Ytdnnpnaaohfgaab
