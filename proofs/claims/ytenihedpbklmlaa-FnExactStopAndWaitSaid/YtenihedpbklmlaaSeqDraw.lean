/-
  How the laws of chapter 10 draw sequences. No condition.
-/
import Derived.Test.YtenihedpbklmlaaSeqMath
import Derived.Test.YtenihedpbklmlaaDraws
namespace Go.Proofs.Ytenihedpbklmlaa
open Go.RowKit

/-- A number that a drawn sequence may hold. -/
def sml (x : Int) : Prop := -1001 ≤ x ∧ x ≤ 1001
theorem sml_snoc {xs : List Int} {x : Int} (h : ∀ y ∈ xs, sml y) (hx : sml x) : ∀ y ∈ xs ++ [x], sml y := fun y hy => by
  rcases List.mem_append.1 hy with hy | hy
  · exact h y hy
  · simp at hy; subst hy; exact hx
theorem sml_at {xs : List Int} (h : ∀ y ∈ xs, sml y) (i : Nat) : -1001 ≤ el xs i ∧ el xs i ≤ 1001 := by
  by_cases hi : i < xs.length
  · exact h _ (el_mem hi)
  · rw [el_out (by omega)]; omega
/-- A drawn sequence: in memory of its own, its numbers small; only the reader was written besides. -/
def SeqDrawn (R p : Nat) (w : World) (e : Ending) (w' : World) : Prop :=
  ∃ xs b n cap p', e = .returned (.slice (some ⟨b, 0, none⟩) n cap) ∧ (n ≤ 21 ∨ n = 65) ∧ (∀ x ∈ xs, sml x) ∧ Grow .i64 3 w' w.heap.size (some ⟨b, 0, none⟩) n cap xs ∧ Rd w' R p' ∧ p' ≤ p + 100 ∧ w.grownBy w' (some R)
/-- The state of the loop that draws a sequence: m numbers are drawn, q are to be drawn. -/
def SeqRel (R p most : Nat) (w : World) (q m : Nat) (v : Option Addr) (cap : Nat) (wr : World) : Prop :=
  ∃ xs b p', v = some ⟨b, 0, none⟩ ∧ q + m ≤ most ∧ (∀ x ∈ xs, sml x) ∧ Grow .i64 3 wr w.heap.size v m cap xs ∧ Rd wr R p' ∧ p' ≤ p + 1 + 3 * m ∧ w.grownBy wr (some R)
set_option maxRecDepth 10000 in
theorem makeSeq65 (w : World) : (Instr.makeSlice 23 (.int .i64 65) (.int .i64 65)).run Try.prog w = .ok (.slice (some ⟨w.heap.size, 0, none⟩) 65 65) (w.alloc (.cells (madeCells #[.int .i64 0] 65) 3)) :=
  run_make_row' (P := Try.prog) 23 3 (.int .i64 0) 8 Try.underlying23 Try.infoInt rfl .i64 .i64 65 (by omega) (by omega) w
set_option maxRecDepth 10000 in
theorem growSeq_made (w : World) (base n : Nat) (hn : n ≤ 1000000) (hb : base ≤ w.heap.size) : Grow .i64 3 (w.alloc (.cells (madeCells #[.int .i64 0] n) 3)) base (some ⟨w.heap.size, 0, none⟩) n n (List.replicate n 0) := by
  refine ⟨by simp, .inr ⟨w.heap.size, n, _, rfl, hb, heap_alloc_last _ _, Nat.le_refl _, by unfold maxLen; omega, by rw [size_madeCells, Nat.mul_one], ?_⟩⟩
  rw [Nat.mul_one, List.take_of_length_le (by simp [size_madeCells])]
  apply List.ext_getElem
  · simp [size_madeCells]
  · intro i h1 h2
    simp [madeCells, Nat.mod_one]
theorem Grow.addrS {k : IntKind} {t : TypeId} {w : World} {base n cap : Nat} {a : Option Addr} {xs : List Int} (h : Grow k t w base a (n + 1) cap xs) : ∃ g, a = some ⟨g, 0, none⟩ := by
  obtain ⟨b, f, e, _⟩ := h.row (by omega)
  exact ⟨b, e⟩
theorem cell_grown2s {w w' : World} {R i : Nat} {cs cs' : Array Value} {t t' : TypeId} (hg : ((w.alloc (.cells cs t)).alloc (.cells cs' t')).grownBy w' (some R)) (hR : R < w.heap.size) :
    w'.cell? ⟨w.heap.size, i, none⟩ = cs[i]? ∧ w'.cell? ⟨w.heap.size + 1, i, none⟩ = cs'[i]? := by
  constructor
  · rw [World.cell?_of_block (hg.block w.heap.size (by simp; omega) (fun e => by injection e; omega)), cell_of_row _ _ _ _ _ _ (heap_prev2 w _ _)]
  · rw [World.cell?_of_block (hg.block (w.heap.size + 1) (by simp) (fun e => by injection e; omega)), cell_of_row _ _ _ _ _ _ (heap_last2 w _ _)]
/-- What asking the reader for a chance of one in n leaves, n also 0. -/
def OddP (R p : Nat) (w : World) (e : Ending) (w' : World) : Prop :=
  ∃ b p', e = .returned (.bool b) ∧ Rd w' R p' ∧ p' ≤ p + 1 ∧ w.grownBy w' (some R)
set_option maxRecDepth 10000 in
theorem odd_or (R p : Nat) (n : Int) (w : World) (hr : Rd w R p) (hp : p ≤ 1099511627776) (hn1 : 0 ≤ n) (hn2 : n ≤ 1099511627776) :
    Calls Try.prog 36 #[.pointer (some ⟨R, 0, none⟩), .int .i64 n] w (OddP R p w) := by
  by_cases h : n = 0
  · subst h
    refine (oddZ_any R w).mono ?_
    rintro e w' ⟨rfl, rfl⟩
    exact ⟨false, p, rfl, hr, by omega, World.grownBy.refl _ _⟩
  · refine (odd_any R p n w hr hp (by omega) hn2).mono ?_
    rintro e w' ⟨b, rfl, h1, h2⟩
    exact ⟨b, p + 1, rfl, h1, Nat.le_refl _, h2⟩
end Go.Proofs.Ytenihedpbklmlaa
