/-
  What the functions of the block code answer on one word: the number of a word, its data, code words, syndromes, decoding. Conditions: the program's two tables lie in their variables, where a word is looked up.
-/
import Derived.Test.YtmhngakfjlkchaaNibMath
import Derived.Test.YtmhngakfjlkchaaRems
import Derived.Test.YtmhngakfjlkchaaImpl2
import Derived.Test.YtmhngakfjlkchaaOne
namespace Go.Proofs.Ytmhngakfjlkchaa
open Go.RowKit

theorem mask7 : IntKind.u64.wrap (IntKind.u64.wrap ((2 : Int) ^ 7) - 1) = ((2 ^ 7 - 1 : Nat) : Int) := rfl
theorem number7_eq {W : Nat} (hW : W < 2 ^ 64) : wrap64 (bits BinOp.and IntKind.u64 ((W : Int) / 2 ^ 57) (IntKind.u64.wrap (IntKind.u64.wrap ((2 : Int) ^ 7) - 1))) = ((W / 2 ^ 57 % 2 ^ 7 : Nat) : Int) := by
  have h2 : ((W : Int) / 2 ^ 57) = ((W / 2 ^ 57 : Nat) : Int) := by
    rw [Int.natCast_ediv, Int.natCast_pow]; rfl
  have hlt : W / 2 ^ 57 ≤ W := Nat.div_le_self _ _
  rw [mask7, h2, u64_and_nat _ _ (by omega) (by omega), Nat.and_two_pow_sub_one_eq_mod]
  have hm : W / 2 ^ 57 % 2 ^ 7 < 2 ^ 7 := Nat.mod_lt _ (Nat.two_pow_pos _)
  generalize W / 2 ^ 57 % 2 ^ 7 = q at *
  exact wrap64_in (by omega)
theorem num7_packed {P : Nat → Nat} {xs : List Int} (h : Packed P (bitsF xs 7)) : P 0 / 2 ^ 57 % 2 ^ 7 = num7 xs := by
  apply Nat.eq_of_testBit_eq
  intro i
  rw [num7, numF_test, Nat.testBit_mod_two_pow, Nat.testBit_div_two_pow]
  by_cases hi : i < 7
  · simp only [hi, decide_true, Bool.true_and]
    have h1 := h.2 (7 - 1 - i) (by omega)
    rw [show (7 - 1 - i) / 64 = 0 by omega] at h1
    rw [← h1]
    congr 1
    omega
  · simp [hi]

/-- Seven bits. -/
def wordOk (xs : List Int) : Bool := bitsOk xs && decide (xs.length = 7)
def numOr (xs : List Int) : Nat := if wordOk xs then num7 xs else 0
theorem wordOk_parts {xs : List Int} (h : wordOk xs = true) : xs.length = 7 ∧ xs.all isBit = true := by
  simp only [wordOk, Bool.and_eq_true, decide_eq_true_eq] at h
  exact ⟨h.2, bitsOk_all h.1⟩
theorem wordOk_mk {xs : List Int} (hl : xs.length = 7) (hb : xs.all isBit = true) : wordOk xs = true := by
  simp [wordOk, hl, bitsOk_mk hb (by omega)]
/-- What the number of a word leaves. -/
def WordPost (xs : List Int) (w : World) (e : Ending) (w' : World) : Prop :=
  e = .returned (.tuple #[.int .i64 (numOr xs : Nat), .bool (wordOk xs)]) ∧ Below w.heap.size w w'
theorem wordPost_no {xs : List Int} {w w' : World} (h : wordOk xs = false) (hb : Below w.heap.size w w') : WordPost xs w (.returned (.tuple #[.int .i64 0, .bool false])) w' := by
  refine ⟨?_, hb⟩
  rw [h, numOr, h]; rfl
theorem wordPost_yes {xs : List Int} {w w' : World} {n : Nat} (h : wordOk xs = true) (hn : n = num7 xs) (hb : Below w.heap.size w w') : WordPost xs w (.returned (.tuple #[.int .i64 (n : Int), .bool true])) w' := by
  refine ⟨?_, hb⟩
  rw [h, numOr, h, hn]; rfl
section
variable {w w1 W0 : World} {z cs : Array Value} {t : TypeId} {fr : Nat × Nat}
theorem single_fst (h : Hid (W0 = (w1.alloc (.cells z t fr)).setRow w1.heap.size cs)) : W0.heap[w1.heap.size]? = some (.cells cs t fr) := by
  rw [h.out]; exact setRow_heap _ _ _ _ _ _ (heap_alloc_last _ _)
theorem below_single (hb : Below w.heap.size w w1) (h : Hid (W0 = (w1.alloc (.cells z t fr)).setRow w1.heap.size cs)) : Below w.heap.size w W0 := by
  rw [h.out]; exact below_setRow (hb.alloc hb.size _) hb.size _
theorem pack_cells {P : Nat → Nat} {n : Nat} (h : W0.heap[w1.heap.size]? = some (.cells cs t fr)) (hp : IsPack cs P n) : W0.cell? ⟨w1.heap.size, 16, none⟩ = some (.int .i64 n) ∧ W0.cell? ⟨w1.heap.size, 0, none⟩ = some (.int .u64 (P 0)) :=
  ⟨by rw [← hp.2.2]; exact cell_of_row _ _ _ _ _ _ h, by rw [← hp.2.1 0 (by omega)]; exact cell_of_row _ _ _ _ _ _ h⟩
end
theorem i64_or (a b : Nat) (ha : a < 2 ^ 63) (hb : b < 2 ^ 63) : bits .or .i64 (a : Int) (b : Int) = ((a ||| b : Nat) : Int) := by
  have hof : ∀ n : Nat, n < 2 ^ 63 → (BitVec.ofInt 64 (n : Int)).toNat = n := fun n hn => by
    rw [BitVec.ofInt_natCast, BitVec.toNat_ofNat]; exact Nat.mod_eq_of_lt (by omega)
  have hlt : a ||| b < 2 ^ 63 := Nat.or_lt_two_pow ha hb
  show IntKind.i64.wrap ((BitVec.ofInt 64 (a : Int) ||| BitVec.ofInt 64 (b : Int)).toNat : Int) = _
  rw [BitVec.toNat_or, hof a ha, hof b hb, IntKind.wrap_i64]
  generalize a ||| b = q at hlt
  omega
theorem digits_dat {xs : List Int} (hl : xs.length = 7) (hb : xs.all isBit = true) : digits (dat (num7 xs ^^^ corN (syn xs))) 4 = decW xs := dec_tab hl hb
end Go.Proofs.Ytmhngakfjlkchaa
