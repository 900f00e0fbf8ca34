/-
  What EncodeNibble, the test of blocks, EncodeBlocks and DecodeBlocks answer, for every list. Conditions: a slice's room is known; the program's two tables lie in their variables, where a word is looked up.
-/
import Derived.Test.YtmhngakfjlkchaaNib2
import Derived.Test.YtmhngakfjlkchaaAppendA
import Derived.Test.YtmhngakfjlkchaaOne
namespace Go.Proofs.Ytmhngakfjlkchaa
open Go.RowKit

/-- Four bits. -/
def nibOk (xs : List Int) : Bool := bitsOk xs && decide (xs.length = 4)
/-- What EncodeNibble answers. -/
def encOr (xs : List Int) : List Int := if nibOk xs then encW xs else []
theorem nibOk_parts {xs : List Int} (h : nibOk xs = true) : xs.length = 4 ∧ xs.all isBit = true := by
  simp only [nibOk, Bool.and_eq_true, decide_eq_true_eq] at h
  exact ⟨h.2, bitsOk_all h.1⟩
theorem nibOk_mk {xs : List Int} (hl : xs.length = 4) (hb : xs.all isBit = true) : nibOk xs = true := by
  simp [nibOk, hl, bitsOk_mk hb (by omega)]
theorem encOr_no {xs : List Int} (h : nibOk xs = false) : encOr xs = [] := by simp [encOr, h]
theorem encOr_yes {xs : List Int} (h : nibOk xs = true) : encOr xs = encW xs := by simp [encOr, h]
/-- A new list, typed out. -/
theorem listPostC_lit {xs : List Int} {w w1 : World} {n : Nat} (h : Below w.heap.size w w1) (hn : n = xs.length) (hl : xs.length ≤ 1000) :
    ListPostC xs w (.returned (.slice (some ⟨w1.heap.size, 0, none⟩) n n)) (w1.alloc (.cells (xs.map (Value.int .i64)).toArray 3)) := by
  refine listPostC_row (b := w1.heap.size) ⟨_, heap_alloc_last _ _, by simp [hn], fun i hi => ?_⟩ hn (by unfold maxLen; omega) h.size (h.alloc h.size _)
  have hi2 : i < xs.length := by omega
  simp [hi2, el]
/-- A list of at most 128 blocks of m bits. -/
def blkOk (m : Nat) (xs : List Int) : Bool := bitsOk xs && (decide (xs.length % m = 0) && decide (xs.length ≤ 128 * m))
theorem blkOk_parts {m : Nat} {xs : List Int} (h : blkOk m xs = true) : bitsOk xs = true ∧ xs.length % m = 0 ∧ xs.length ≤ 128 * m := by
  simpa [blkOk] using h
end Go.Proofs.Ytmhngakfjlkchaa
