/-
  The laws of SyndromeOf and DecodeNibble, walked: they return true for every code, and write into nothing that was there. Condition: the program's tables lie in their variables.
-/
import Derived.Test.YtmhngakfjlkchaaDoorNibDraw
namespace Go.Proofs.YtmhngakfjlkchaaDoor
open Go.RowKit

/-- Block b is a row of its own that begins with the list xs. -/
def RowOf (w : World) (b cap : Nat) (xs : List Int) : Prop := ∃ f, w.rowIs b 3 cap f ∧ xs.length ≤ cap ∧ ∀ i, i < xs.length → f i = .int .i64 (el xs i)
theorem RowOf.put {w : World} {b cap k : Nat} {xs : List Int} {v : Int} (h : RowOf w b cap xs) : RowOf (w.setCell ⟨b, k, none⟩ (.int .i64 v)) b cap (xs.set k v) := by
  obtain ⟨f, h1, h2, h3⟩ := h
  refine ⟨_, h1.set k (.int .i64 v), by simpa using h2, fun i hi => ?_⟩
  have hi2 : i < xs.length := by simpa using hi
  by_cases e : i = k
  · subst e; simp [el, hi2]
  · simp only [e, if_false, h3 i hi2]
    have e2 : ¬ k = i := fun x => e x.symm
    simp [el, e2]
theorem RowOf.cell {w : World} {b cap i : Nat} {xs : List Int} (h : RowOf w b cap xs) (hi : i < xs.length) : w.cell? ⟨b, i, none⟩ = some (.int .i64 (el xs i)) := by
  obtain ⟨f, h1, h2, h3⟩ := h
  rw [h1.cell (by omega), h3 i hi]
theorem RowOf.frozen {w : World} {b cap : Nat} {xs : List Int} (h : RowOf w b cap xs) (i : Nat) : w.frozen? ⟨b, i, none⟩ = false := by
  obtain ⟨f, h1, _⟩ := h
  exact h1.frozen i
theorem RowOf.lt {w : World} {b cap : Nat} {xs : List Int} (h : RowOf w b cap xs) : b < w.heap.size := by
  obtain ⟨f, h1, _⟩ := h
  exact h1.lt
theorem RowOf.ints {w : World} {b cap : Nat} {xs : List Int} (h : RowOf w b cap xs) : Ints .i64 w w.heap.size (some ⟨b, 0, none⟩) xs := fun _ =>
  ⟨b, 0, rfl, h.lt, fun i hi => by rw [Nat.zero_add]; exact h.cell hi⟩
theorem RowOf.next {w w' : World} {b cap : Nat} {xs : List Int} (h : RowOf w b cap xs) (hb : Below w.heap.size w w') : RowOf w' b cap xs := by
  obtain ⟨f, h1, h2⟩ := h
  exact ⟨f, h1.of_block (hb.block b h1.lt), h2⟩
theorem rowOf_list {w w' : World} {a : Option Addr} {xs : List Int} (h : OwnInts .i64 3 w' w.heap.size a xs) (hne : xs ≠ []) : ∃ b cap, a = some ⟨b, 0, none⟩ ∧ w.heap.size ≤ b ∧ RowOf w' b cap xs := by
  obtain ⟨b, cap, e, h1, h2, f, h3, h4⟩ := h hne
  exact ⟨b, cap, e, h1, f, h3, h2, h4⟩
theorem rowOf_grow {w : World} {base n cap : Nat} {a : Option Addr} {xs : List Int} (h : Grow .i64 3 w base a n cap xs) (hp : 0 < n) : ∃ b, a = some ⟨b, 0, none⟩ ∧ base ≤ b ∧ RowOf w b cap xs := by
  have hl := h.len
  obtain ⟨b, f, e, h1, _, h3, h4, h5⟩ := h.row hp
  exact ⟨b, e, h1, f, h4, by omega, fun i hi => h5 i (by omega)⟩

theorem synOr_no {xs : List Int} (h : wordOk xs = false) : synOr xs = -1 := by simp [synOr, h]
theorem synOr_yes {xs : List Int} (h : wordOk xs = true) : synOr xs = (syn xs : Int) := by simp [synOr, h]
theorem decOr_no {xs : List Int} (h : wordOk xs = false) : decOr xs = [] := by simp [decOr, h]
theorem fixOr_no {xs : List Int} (h : wordOk xs = false) : fixOr xs = false := by simp [fixOr, h]
theorem dist_words {xs : List Int} (hl : xs.length = 7) (hb : xs.all isBit = true) : distOr (encW (decW xs)) xs = if syn xs = 0 then 0 else 1 := by
  have h1 := enc_bits (decW_length xs) (dec_bits hl hb)
  have hp : pairOk (encW (decW xs)) xs = true := by
    simp [pairOk, bitsOk_mk h1 (by rw [encW_length]; omega), bitsOk_mk hb (by omega), encW_length, hl]
  rw [distOr_ok hp, dist_dec hl hb]
  split <;> rfl
end Go.Proofs.YtmhngakfjlkchaaDoor
