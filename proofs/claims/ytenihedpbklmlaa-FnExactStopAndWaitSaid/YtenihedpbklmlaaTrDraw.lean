/-
  What the laws of chapter 11 draw. No condition.
-/
import Derived.Test.YtenihedpbklmlaaSeqDraw
import Derived.Test.YtenihedpbklmlaaAppendA
namespace Go.Proofs.Ytenihedpbklmlaa
open Go.RowKit

/-- A drawn list lies in memory of the call's own. -/
def LstAt (w : World) (base : Nat) (a : Option Addr) (xs : List Int) : Prop :=
  ∃ b off, a = some ⟨b, off, none⟩ ∧ base ≤ b ∧ b < w.heap.size ∧ ∀ i, i < xs.length → w.cell? ⟨b, off + i, none⟩ = some (.int .i64 (el xs i))
section
variable {w w' : World} {base : Nat} {a : Option Addr} {xs : List Int}
theorem LstAt.ints (h : LstAt w base a xs) : Ints .i64 w w.heap.size a xs := fun _ => by
  obtain ⟨b, off, e, _, hb, hc⟩ := h
  exact ⟨b, off, e, hb, hc⟩
theorem LstAt.grown {R : Nat} (h : LstAt w base a xs) (hg : w.grownBy w' (some R)) (hR : R < base) : LstAt w' base a xs := by
  obtain ⟨b, off, e, h1, hb, hc⟩ := h
  refine ⟨b, off, e, h1, Nat.lt_of_lt_of_le hb hg.size, fun i hi => ?_⟩
  rw [← hc i hi]
  exact World.cell?_of_block (hg.block b hb (fun e => by injection e; omega)) 
set_option maxRecDepth 10000 in
theorem lstAt_grow {n cap b : Nat} (h : Grow .i64 3 w base (some ⟨b, 0, none⟩) n cap xs) (hb : base ≤ b ∧ b < w.heap.size) : LstAt w base (some ⟨b, 0, none⟩) xs := by
  refine ⟨b, 0, rfl, hb.1, hb.2, fun i hi => ?_⟩
  have hl := h.len
  obtain ⟨b', f, e, _, _, h3, h4, h5⟩ := h.row (by omega)
  injection e with e
  injection e with e
  subst e
  rw [Nat.zero_add, h4.cell (by omega), h5 i (by omega)]
end
/-- A drawn list for the transform: at most 17 numbers; only the reader was written besides. -/
def PtsDrawn (R p : Nat) (w : World) (e : Ending) (w' : World) : Prop :=
  ∃ xs a n cap p', e = .returned (.slice a n cap) ∧ (xs.length = n ∧ n ≤ 17 ∧ n ≤ cap ∧ cap ≤ maxLen) ∧ LstAt w' w.heap.size a xs ∧ Rd w' R p' ∧ p' ≤ p + 100 ∧ w.grownBy w' (some R)
/-- The state of the loop that draws it: k numbers are drawn. -/
def PtsRel (R p : Nat) (w : World) (k : Nat) (v : Option Addr) (cap : Nat) (wr : World) : Prop :=
  ∃ xs b p', v = some ⟨b, 0, none⟩ ∧ Grow .i64 3 wr w.heap.size v k cap xs ∧ Rd wr R p' ∧ p' ≤ p + 3 * k ∧ w.grownBy wr (some R)
theorem grow_blkT {k : IntKind} {t : TypeId} {w : World} {base g n cap : Nat} {xs : List Int} (h : Grow k t w base (some ⟨g, 0, none⟩) n cap xs) : base ≤ g ∧ g < w.heap.size := World.ownsRow.lt h g rfl
theorem grow_addrT {k : IntKind} {t : TypeId} {w : World} {base n cap : Nat} {a : Option Addr} {xs : List Int} (h : Grow k t w base a (n + 1) cap xs) : ∃ g, a = some ⟨g, 0, none⟩ := by
  obtain ⟨b, f, e, _⟩ := h.row (by omega)
  exact ⟨b, e⟩
theorem cell_grownT {w w' : World} {R i : Nat} {cs : Array Value} {t : TypeId} (hg : (w.alloc (.cells cs t)).grownBy w' (some R)) (hR : R < w.heap.size) : w'.cell? ⟨w.heap.size, i, none⟩ = cs[i]? := by
  rw [World.cell?_of_block (hg.block w.heap.size (by simp) (fun e => by injection e; omega)), cell_of_row _ _ _ _ _ _ (heap_alloc_last w _)]
set_option maxRecDepth 10000 in
/-- One number of such a list changed. -/
theorem lst_set {w : World} {base b cap j : Nat} {xs : List Int} {v : Int} (h : Grow .i64 3 w base (some ⟨b, 0, none⟩) 16 cap xs) (hj : j < 16) :
    ∃ u, w.cell? ⟨b, j, none⟩ = some u ∧ w.frozen? ⟨b, j, none⟩ = false ∧ LstAt (w.setCell ⟨b, j, none⟩ (.int .i64 v)) base (some ⟨b, 0, none⟩) (xs.set j v) := by
  have hb := grow_blkT h
  have hl := h.len
  obtain ⟨b', f, e, _, _, h3, h4, h5⟩ := h.row (by omega)
  injection e with e
  injection e with e
  subst e
  refine ⟨_, h4.cell (by omega), h4.frozen j, b, 0, rfl, hb.1, by simpa using hb.2, fun i hi => ?_⟩
  rw [List.length_set] at hi
  rw [Nat.zero_add, (h4.set j (.int .i64 v)).cell (by omega)]
  by_cases e : i = j
  · subst e; simp [el, hi]
  · simp only [e, if_false]
    rw [h5 i (by omega)]
    simp [el, List.getElem?_set_ne (show j ≠ i by omega)]
set_option maxRecDepth 10000 in
theorem lst_drop {w : World} {base b cap : Nat} {xs : List Int} (h : Grow .i64 3 w base (some ⟨b, 0, none⟩) 16 cap xs) : LstAt w base (some ⟨b, 1, none⟩) (xs.drop 1) := by
  have hb := grow_blkT h
  obtain ⟨b', off, e, _, _, hc⟩ := lstAt_grow h hb
  injection e with e
  injection e with e1 e2
  subst e1 e2
  refine ⟨b, 1, rfl, hb.1, hb.2, fun i hi => ?_⟩
  rw [List.length_drop] at hi
  have := hc (1 + i) (by omega)
  rw [Nat.zero_add] at this
  rw [this, Nat.add_comm 1 i]
  simp [el]
/-- What drawing leaves: a list; two lists. -/
def PtsP1 (w : World) (e : Ending) (w' : World) : Prop :=
  ∃ xs a c, e = .returned (.slice a xs.length c) ∧ (xs.length ≤ 17 ∧ xs.length ≤ c ∧ c ≤ maxLen) ∧ LstAt w' w.heap.size a xs ∧ Below w.heap.size w w'
def PtsP2 (w : World) (e : Ending) (w' : World) : Prop :=
  ∃ xs a c ys a' c', e = .returned (.tuple #[.slice a xs.length c, .slice a' ys.length c']) ∧ (xs.length ≤ 17 ∧ xs.length ≤ c ∧ c ≤ maxLen) ∧ (ys.length ≤ 17 ∧ ys.length ≤ c' ∧ c' ≤ maxLen) ∧ LstAt w' w.heap.size a xs ∧ LstAt w' w.heap.size a' ys ∧ Below w.heap.size w w'
theorem LstAt.base_le {w : World} {base base' : Nat} {a : Option Addr} {xs : List Int} (h : LstAt w base a xs) (hb : base' ≤ base) : LstAt w base' a xs := by
  obtain ⟨b, off, e, h1, h2, hc⟩ := h
  exact ⟨b, off, e, Nat.le_trans hb h1, h2, hc⟩
end Go.Proofs.Ytenihedpbklmlaa
