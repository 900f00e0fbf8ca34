/-
  What EncodeBlocks and DecodeBlocks answer, for every list. Conditions: a slice's room is known; the program's two tables lie in their variables, where a word is looked up.
-/
import Derived.Test.YtmhngakfjlkchaaNib3
namespace Go.Proofs.Ytmhngakfjlkchaa
open Go.RowKit

/-- Block k of a list of blocks of m. -/
def part (m : Nat) (xs : List Int) (k : Nat) : List Int := (xs.drop (m * k)).take m
theorem part_length {m k : Nat} {xs : List Int} (h : m * k + m ≤ xs.length) : (part m xs k).length = m := by simp [part]; omega
theorem part_el {m k i : Nat} {xs : List Int} (hi : i < m) : el (part m xs k) i = el xs (m * k + i) := by
  simp [el, part, hi, List.getElem?_drop]
theorem part_bits {m k : Nat} {xs : List Int} (h : xs.all isBit = true) : (part m xs k).all isBit = true := by
  rw [List.all_eq_true] at h ⊢
  exact fun x hx => h x (List.mem_of_mem_drop (List.mem_of_mem_take hx))
theorem part_ints {m k b off B : Nat} {kd : IntKind} {w : World} {xs : List Int} (h : Ints kd w B (some ⟨b, off, none⟩) xs) (hl : m * k + m ≤ xs.length) : Ints kd w B (some ⟨b, off + m * k, none⟩) (part m xs k) := fun hne => by
  have hp := part_length hl
  have hne' : xs ≠ [] := by intro e; subst e; simp [part] at hne
  obtain ⟨b', off', e, hb, hc⟩ := h hne'
  injection e with e
  injection e with e1 e2
  subst e1 e2
  refine ⟨b, off + m * k, rfl, hb, fun i hi => ?_⟩
  rw [hp] at hi
  rw [part_el hi, Nat.add_assoc]
  exact hc _ (by omega)
/-- The code of the first k blocks; the bits of the first k words, and how many of them were corrected. -/
def encK (xs : List Int) : Nat → List Int
  | 0 => []
  | k + 1 => encK xs k ++ encW (part 4 xs k)
def decK (xs : List Int) : Nat → List Int
  | 0 => []
  | k + 1 => decK xs k ++ decW (part 7 xs k)
def fixK (xs : List Int) : Nat → Nat
  | 0 => 0
  | k + 1 => fixK xs k + if syn (part 7 xs k) = 0 then 0 else 1
theorem encK_length (xs : List Int) : ∀ k, (encK xs k).length = 7 * k
  | 0 => rfl
  | k + 1 => by rw [encK, List.length_append, encK_length xs k, encW_length]; omega
theorem decK_length (xs : List Int) : ∀ k, (decK xs k).length = 4 * k
  | 0 => rfl
  | k + 1 => by rw [decK, List.length_append, decK_length xs k, decW_length]; omega
theorem fixK_le (xs : List Int) : ∀ k, fixK xs k ≤ k
  | 0 => Nat.le_refl _
  | k + 1 => by have := fixK_le xs k; simp only [fixK]; split <;> omega
/-- What EncodeBlocks and DecodeBlocks answer. -/
def encB (xs : List Int) : List Int := if blkOk 4 xs then encK xs (xs.length / 4) else []
def decB (xs : List Int) : List Int := if blkOk 7 xs then decK xs (xs.length / 7) else []
def fixB (xs : List Int) : Nat := if blkOk 7 xs then fixK xs (xs.length / 7) else 0
theorem encB_no {xs : List Int} (h : blkOk 4 xs = false) : encB xs = [] := by simp [encB, h]
theorem encB_yes {xs : List Int} (h : blkOk 4 xs = true) : encB xs = encK xs (xs.length / 4) := by simp [encB, h]
theorem decB_no {xs : List Int} (h : blkOk 7 xs = false) : decB xs = [] := by simp [decB, h]
theorem decB_yes {xs : List Int} (h : blkOk 7 xs = true) : decB xs = decK xs (xs.length / 7) := by simp [decB, h]
theorem fixB_no {xs : List Int} (h : blkOk 7 xs = false) : fixB xs = 0 := by simp [fixB, h]
theorem fixB_yes {xs : List Int} (h : blkOk 7 xs = true) : fixB xs = fixK xs (xs.length / 7) := by simp [fixB, h]

theorem makeC0 (n : Nat) (hn : n ≤ 1024) (w : World) : (Instr.makeSlice 23 (.int .i64 0) (.int .i64 (n : Int))).run Try.prog w = .ok (.slice (some ⟨w.heap.size, 0, none⟩) 0 n) (w.alloc (.cells (madeCells #[.int .i64 0] n) 3)) := by
  obtain ⟨i0, hi0, hz0, hz1, hz2⟩ := info_parts Try.infoInt
  have h := run_make (P := Try.prog) w 23 3 i0 (.int .i64 0) Try.underlying23 hi0 hz0 .i64 .i64 0 (n : Int) (by omega) (by omega) (by rw [hz2]; omega) (by omega)
  rw [hz1, Nat.mul_one] at h
  exact h
theorem Grow.madeC0 (w : World) (base n : Nat) (hn : n ≤ 1024) (hb : base ≤ w.heap.size) : Grow .i64 3 (w.alloc (.cells (madeCells #[.int .i64 0] n) 3)) base (some ⟨w.heap.size, 0, none⟩) 0 n [] :=
  World.ownsRow_made (base := base) (e := 3) (size := 1) w (madeCells #[.int .i64 0] n) n hb (by unfold maxLen; omega) (by simp [size_madeCells])

/-- A new list that may be appended to. -/
def GrownList (xs : List Int) (w : World) (e : Ending) (w' : World) : Prop :=
  ∃ a n cap, e = .returned (.slice a n cap) ∧ Grow .i64 3 w' w.heap.size a n cap xs ∧ Below w.heap.size w w'
theorem GrownList.post {xs : List Int} {w w' : World} {e : Ending} (h : GrownList xs w e w') : ListPostC xs w e w' := by
  obtain ⟨a, n, cap, rfl, h1, h2⟩ := h
  exact listPostC_grow h1 h2
/-- What DecodeBlocks leaves. -/
def DecBPost (xs : List Int) (w : World) (e : Ending) (w' : World) : Prop :=
  ∃ a cap, e = .returned (.tuple #[.slice a (decB xs).length cap, .int .i64 (fixB xs : Nat)]) ∧ ((decB xs).length ≤ cap ∧ cap ≤ maxLen) ∧ OwnInts .i64 3 w' w.heap.size a (decB xs) ∧ Below w.heap.size w w'
theorem decBPost_mk {xs zs : List Int} {w w' : World} {a : Option Addr} {n cap f : Nat} (hz : decB xs = zs) (hf : fixB xs = f) (h : ListPostC zs w (.returned (.slice a n cap)) w') : DecBPost xs w (.returned (.tuple #[.slice a n cap, .int .i64 (f : Int)])) w' := by
  obtain ⟨a', cap', e, h1, h2, h3⟩ := h
  injection e with e
  injection e with e1 e2 e3
  subst e1 e2 e3
  unfold DecBPost
  rw [hz, hf]
  exact ⟨a, cap, rfl, h1, h2, h3⟩
theorem decOr_yes {xs : List Int} (h : wordOk xs = true) : decOr xs = decW xs := by simp [decOr, h]
theorem fixOr_yes {xs : List Int} (h : wordOk xs = true) : fixOr xs = decide (syn xs ≠ 0) := by simp [fixOr, h]
end Go.Proofs.Ytmhngakfjlkchaa
