/-
  The block code on lists of bits: code words, syndromes, corrections, blocks; plain mathematics, the small cases by the kernel. Condition: the lists hold bits, where a lemma says so.
-/
import Derived.Test.YtmhngakfjlkchaaDoorLawMath
import Derived.Test.YtmhngakfjlkchaaDoorPoly
namespace Go.Proofs.YtmhngakfjlkchaaDoor
open Go.RowKit

/-- All lists of n bits. -/
def allB : Nat → List (List Int)
  | 0 => [[]]
  | n + 1 => (allB n).flatMap fun l => [0 :: l, 1 :: l]
theorem mem_allB : ∀ (n : Nat) (xs : List Int), xs.length = n → xs.all isBit = true → xs ∈ allB n
  | 0, xs, hl, _ => by
    have : xs = [] := List.eq_nil_of_length_eq_zero hl
    subst this; simp [allB]
  | n + 1, [], hl, _ => by simp at hl
  | n + 1, x :: xs, hl, h => by
    simp only [List.all_cons, Bool.and_eq_true] at h
    have := mem_allB n xs (by simpa using hl) h.2
    simp only [allB, List.mem_flatMap]
    refine ⟨xs, this, ?_⟩
    have hx : x = 0 ∨ x = 1 := by simpa [isBit] using h.1
    rcases hx with rfl | rfl <;> simp
theorem of_allB {n : Nat} {p : List Int → Bool} (h : (allB n).all p = true) {xs : List Int} (hl : xs.length = n) (hb : xs.all isBit = true) : p xs = true :=
  List.all_eq_true.1 h xs (mem_allB n xs hl hb)
theorem bitsOk_all {xs : List Int} (h : bitsOk xs = true) : xs.all isBit = true := by
  simp only [bitsOk, Bool.and_eq_true] at h; exact h.2
theorem bitsOk_mk {xs : List Int} (h : xs.all isBit = true) (hl : xs.length ≤ 1024) : bitsOk xs = true := by
  simp [bitsOk, h, hl]

/-- The code word of four bits. -/
def encW (xs : List Int) : List Int :=
  [bits .xor .i64 (bits .xor .i64 (el xs 0) (el xs 1)) (el xs 3), bits .xor .i64 (bits .xor .i64 (el xs 0) (el xs 2)) (el xs 3), el xs 0,
    bits .xor .i64 (bits .xor .i64 (el xs 1) (el xs 2)) (el xs 3), el xs 1, el xs 2, el xs 3]
theorem encW_length (xs : List Int) : (encW xs).length = 7 := rfl
/-- The number of seven bits, the first one the highest digit. -/
def num7 (xs : List Int) : Nat := numF (bitsF xs 7) 7
theorem num7_lt (xs : List Int) : num7 xs < 128 := numF_lt _ 7
/-- The exclusive or of the places, counted from 1, whose bit is 1, among the first k. -/
def synK (xs : List Int) : Nat → Nat
  | 0 => 0
  | k + 1 => if el xs k = 1 then synK xs k ^^^ (k + 1) else synK xs k
def syn (xs : List Int) : Nat := synK xs 7
theorem synK_lt (xs : List Int) : ∀ k, k ≤ 7 → synK xs k < 8
  | 0, _ => by simp [synK]
  | k + 1, h => by
    have := synK_lt xs k (by omega)
    simp only [synK]
    split
    · exact Nat.xor_lt_two_pow (n := 3) this (by omega)
    · exact this
theorem syn_lt (xs : List Int) : syn xs < 8 := synK_lt xs 7 (by omega)
/-- The word with the bit in the place of the syndrome inverted. -/
def fixW (xs : List Int) : List Int := if syn xs = 0 then xs else xs.set (syn xs - 1) (1 - el xs (syn xs - 1))
theorem fixW_length (xs : List Int) : (fixW xs).length = xs.length := by unfold fixW; split <;> simp
def pickW (x : List Int) : List Int := [el x 2, el x 4, el x 5, el x 6]
/-- The four bits of a word. -/
def decW (xs : List Int) : List Int := pickW (fixW xs)
theorem decW_length (xs : List Int) : (decW xs).length = 4 := rfl

/-- The program's tables. -/
def synL : List Int := [0, 7, 6, 1, 5, 2, 3, 4, 4, 3, 2, 5, 1, 6, 7, 0, 3, 4, 5, 2, 6, 1, 0, 7, 7, 0, 1, 6, 2, 5, 4, 3, 2, 5, 4, 3, 7, 0, 1, 6, 6, 1, 0, 7, 3, 4, 5, 2, 1, 6, 7, 0, 4, 3, 2, 5, 5, 2, 3, 4, 0, 7, 6, 1,
  1, 6, 7, 0, 4, 3, 2, 5, 5, 2, 3, 4, 0, 7, 6, 1, 2, 5, 4, 3, 7, 0, 1, 6, 6, 1, 0, 7, 3, 4, 5, 2, 3, 4, 5, 2, 6, 1, 0, 7, 7, 0, 1, 6, 2, 5, 4, 3, 0, 7, 6, 1, 5, 2, 3, 4, 4, 3, 2, 5, 1, 6, 7, 0]
def corL : List Int := [0, 64, 32, 16, 8, 4, 2, 1]
def corN (s : Nat) : Nat := (el corL s).toNat
theorem corN_lt {s : Nat} (h : s < 8) : corN s < 128 := by
  have : ∀ s, s < 8 → corN s < 128 := by decide +kernel
  exact this s h
theorem corN_el {s : Nat} (h : s < 8) : el corL s = (corN s : Int) := by
  have : ∀ s, s < 8 → el corL s = (corN s : Int) := by decide +kernel
  exact this s h
/-- The number of the four data bits of a word's number. -/
def dat (m : Nat) : Nat := (m / 2 &&& 8) ||| (m &&& 7)
theorem dat_lt {m : Nat} (h : m < 128) : dat m < 16 := by
  have : ∀ m, m < 128 → dat m < 16 := by decide +kernel
  exact this m h

theorem syn_tab {xs : List Int} (hl : xs.length = 7) (hb : xs.all isBit = true) : el synL (num7 xs) = (syn xs : Int) := by
  have := of_allB (n := 7) (p := fun l => decide (el synL (num7 l) = (syn l : Int))) (by decide +kernel) hl hb
  simpa using this
/-- What the program makes of a word's number. -/
theorem dec_tab {xs : List Int} (hl : xs.length = 7) (hb : xs.all isBit = true) : bitList (fun k => (dat (num7 xs ^^^ corN (syn xs))).testBit (4 - 1 - k)) 4 = decW xs := by
  have := of_allB (n := 7) (p := fun l => decide (bitList (fun k => (dat (num7 l ^^^ corN (syn l))).testBit (4 - 1 - k)) 4 = decW l)) (by decide +kernel) hl hb
  simpa using this
theorem enc_bits {xs : List Int} (hl : xs.length = 4) (hb : xs.all isBit = true) : (encW xs).all isBit = true := by
  have := of_allB (n := 4) (p := fun l => (encW l).all isBit) (by decide +kernel) hl hb
  simpa using this
theorem dec_bits {xs : List Int} (hl : xs.length = 7) (hb : xs.all isBit = true) : (decW xs).all isBit = true := by
  have := of_allB (n := 7) (p := fun l => (decW l).all isBit) (by decide +kernel) hl hb
  simpa using this
/-- A code word has the syndrome 0 and is decoded to its bits. -/
theorem syn_enc {xs : List Int} (hl : xs.length = 4) (hb : xs.all isBit = true) : syn (encW xs) = 0 := by
  have := of_allB (n := 4) (p := fun l => decide (syn (encW l) = 0)) (by decide +kernel) hl hb
  simpa using this
theorem dec_enc {xs : List Int} (hl : xs.length = 4) (hb : xs.all isBit = true) : decW (encW xs) = xs := by
  have := of_allB (n := 4) (p := fun l => decide (decW (encW l) = l)) (by decide +kernel) hl hb
  simpa using this
/-- Code words of different bits differ in at least three places. -/
theorem enc_far {xs ys : List Int} (hl : xs.length = 4) (hb : xs.all isBit = true) (hl' : ys.length = 4) (hb' : ys.all isBit = true) : ys = xs ∨ 3 ≤ dist (encW xs) (encW ys) := by
  have h := of_allB (n := 4) (p := fun l => (allB 4).all fun m => decide (m = l ∨ 3 ≤ dist (encW l) (encW m))) (by decide +kernel) hl hb
  have := of_allB (n := 4) h hl' hb'
  simpa using this
/-- With the bit in the place of the syndrome inverted the syndrome is 0. -/
theorem syn_fix {xs : List Int} (hl : xs.length = 7) (hb : xs.all isBit = true) : syn (fixW xs) = 0 := by
  have := of_allB (n := 7) (p := fun l => decide (syn (fixW l) = 0)) (by decide +kernel) hl hb
  simpa using this
theorem fix_bits {xs : List Int} (hl : xs.length = 7) (hb : xs.all isBit = true) : (fixW xs).all isBit = true := by
  have := of_allB (n := 7) (p := fun l => (fixW l).all isBit) (by decide +kernel) hl hb
  simpa using this
/-- A word differs from the code word of its bits in no place, or in one if a bit was inverted. -/
theorem dist_dec {xs : List Int} (hl : xs.length = 7) (hb : xs.all isBit = true) : dist (encW (decW xs)) xs = if syn xs = 0 then 0 else 1 := by
  have := of_allB (n := 7) (p := fun l => decide (dist (encW (decW l)) l = if syn l = 0 then 0 else 1)) (by decide +kernel) hl hb
  simpa using this
/-- A code word with one bit inverted is decoded to its bits, and its syndrome is not 0. -/
theorem dec_one {xs : List Int} (hl : xs.length = 4) (hb : xs.all isBit = true) {i : Nat} (hi : i < 7) : decW ((encW xs).set i (1 - el (encW xs) i)) = xs ∧ syn ((encW xs).set i (1 - el (encW xs) i)) ≠ 0 := by
  have h := of_allB (n := 4) (p := fun l => (List.range 7).all fun i => decide (decW ((encW l).set i (1 - el (encW l) i)) = l ∧ syn ((encW l).set i (1 - el (encW l) i)) ≠ 0)) (by decide +kernel) hl hb
  exact of_decide_eq_true (List.all_eq_true.1 h i (List.mem_range.2 hi))
theorem set_bits {xs : List Int} (hb : xs.all isBit = true) {i : Nat} (hi : i < xs.length) : (xs.set i (1 - el xs i)).all isBit = true := by
  rw [List.all_eq_true] at hb ⊢
  intro y hy
  rcases List.mem_or_eq_of_mem_set hy with hy | rfl
  · exact hb y hy
  · have := hb _ (el_mem hi)
    have h : el xs i = 0 ∨ el xs i = 1 := by simpa [isBit] using this
    rcases h with h | h <;> rw [h] <;> rfl
/-- A code word with two bits inverted is decoded to other bits, and its syndrome is not 0. -/
def twoW (l : List Int) (i j : Nat) : List Int := (l.set i (1 - el l i)).set j (1 - el (l.set i (1 - el l i)) j)
theorem dec_two {xs : List Int} (hl : xs.length = 4) (hb : xs.all isBit = true) {i j : Nat} (hi : i < 7) (hj : j < 7) (hij : i ≠ j) : decW (twoW (encW xs) i j) ≠ xs ∧ syn (twoW (encW xs) i j) ≠ 0 := by
  have h := of_allB (n := 4) (p := fun l => (List.range 7).all fun i => (List.range 7).all fun j => decide (i = j ∨ (decW (twoW (encW l) i j) ≠ l ∧ syn (twoW (encW l) i j) ≠ 0))) (by decide +kernel) hl hb
  exact (of_decide_eq_true (List.all_eq_true.1 (List.all_eq_true.1 h i (List.mem_range.2 hi)) j (List.mem_range.2 hj))).resolve_left hij
/-- The code word of a sum is the sum of the code words. -/
theorem enc_sum {xs ys : List Int} (hl : xs.length = 4) (hb : xs.all isBit = true) (hl' : ys.length = 4) (hb' : ys.all isBit = true) : encW (sumOr xs ys) = sumOr (encW xs) (encW ys) := by
  have h := of_allB (n := 4) (p := fun l => (allB 4).all fun m => decide (encW (sumOr l m) = sumOr (encW l) (encW m))) (by decide +kernel) hl hb
  have := of_allB (n := 4) h hl' hb'
  simpa using this
end Go.Proofs.YtmhngakfjlkchaaDoor
