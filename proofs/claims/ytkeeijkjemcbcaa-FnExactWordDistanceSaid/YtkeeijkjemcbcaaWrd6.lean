/-
  What EncodeWord, WordSyndromes and WordDistance answer, for every list. Conditions: a list that can be read; the program's four tables lie in their variables.
-/
import Derived.Test.YtkeeijkjemcbcaaWrd5
import Derived.Test.YtkeeijkjemcbcaaSliceFns
namespace Go.Proofs.Ytkeeijkjemcbcaa
open Go.RowKit

/-- What EncodeWord, WordSyndromes and WordDistance answer. -/
def encL (xs : List Int) : List Int := if wok 11 xs then ofN (enc6 (co xs)) 15 else []
def synL6 (xs : List Int) : List Int := if wok 15 xs then [(syn6 (co xs) 0 : Int), syn6 (co xs) 1, syn6 (co xs) 2, syn6 (co xs) 3] else []
def dist6 (xs ys : List Int) : Int := if wok 15 xs && wok 15 ys then (wt (fun i => co xs i ^^^ co ys i) 15 : Int) else -1
theorem encL_no {xs : List Int} (h : wok 11 xs = false) : encL xs = [] := by simp [encL, h]
theorem encL_yes {xs : List Int} (h : wok 11 xs = true) : encL xs = ofN (enc6 (co xs)) 15 := by simp [encL, h]
theorem synL6_no {xs : List Int} (h : wok 15 xs = false) : synL6 xs = [] := by simp [synL6, h]
theorem synL6_yes {xs : List Int} (h : wok 15 xs = true) : synL6 xs = [(syn6 (co xs) 0 : Int), syn6 (co xs) 1, syn6 (co xs) 2, syn6 (co xs) 3] := by simp [synL6, h]
theorem dist6_l {xs ys : List Int} (h : wok 15 xs = false) : dist6 xs ys = -1 := by simp [dist6, h]
theorem dist6_r {xs ys : List Int} (h : wok 15 ys = false) : dist6 xs ys = -1 := by simp [dist6, h]
theorem dist6_yes {xs ys : List Int} (h : wok 15 xs = true) (h2 : wok 15 ys = true) : dist6 xs ys = (wt (fun i => co xs i ^^^ co ys i) 15 : Int) := by simp [dist6, h, h2]
theorem encL_parts {xs : List Int} (h : wok 11 xs = true) : xs ++ [(rem6 (co xs) 11 0 : Int), rem6 (co xs) 11 1, rem6 (co xs) 11 2, rem6 (co xs) 11 3] = encL xs := by
  obtain ⟨h1, h2⟩ := wok_parts h
  rw [encL_yes h]
  refine list_el (by simp [ofN_length, h1]) fun i hi => ?_
  have hi15 : i < 15 := by simp [h1] at hi; omega
  rw [ofN_el hi15]
  by_cases hlt : i < 11
  · rw [enc6_data _ hlt, ← (co_el h2 (by omega)).1]
    simp [el, List.getElem?_append_left (show i < xs.length by omega)]
  · have : i = 11 ∨ i = 12 ∨ i = 13 ∨ i = 14 := by omega
    rcases this with rfl | rfl | rfl | rfl <;> simp [el, h1, enc6]
theorem ListPostC.back {xs : List Int} {w W w' : World} {e : Ending} (h : ListPostC xs W e w') (hw : Below w.heap.size w W) : ListPostC xs w e w' := by
  obtain ⟨a, cap, h1, h2, h3, h4⟩ := h
  refine ⟨a, cap, h1, h2, fun hne => ?_, Below.next hw (Nat.le_refl _) h4⟩
  obtain ⟨b, cap', e1, e2, e3⟩ := h3 hne
  exact ⟨b, cap', e1, Nat.le_trans hw.size e2, e3⟩
section
variable {w w1 W0 : World} {z cs : Array Value} {t : TypeId} {fr : Nat × Nat}
theorem box_fst (h : Hid (W0 = (w1.alloc (.cells z t fr)).setRow w1.heap.size cs)) : W0.heap[w1.heap.size]? = some (.cells cs t fr) := by
  rw [h.out]; exact setRow_heap _ _ _ _ _ _ (heap_alloc_last _ _)
theorem below_box (hb : Below w.heap.size w w1) (h : Hid (W0 = (w1.alloc (.cells z t fr)).setRow w1.heap.size cs)) : Below w.heap.size w W0 := by
  rw [h.out]; exact below_setRow (hb.alloc hb.size _) hb.size _
end
theorem ints_row4 {w : World} {g a b c d : Nat} {t : TypeId} {fr : Nat × Nat} (h : w.heap[g]? = some (.cells (row4 a b c d) t fr)) : Ints .i64 w w.heap.size (some ⟨g, 0, none⟩) [(a : Int), b, c, d] := fun _ =>
  ⟨g, 0, rfl, (Array.getElem?_eq_some_iff.1 h).1, fun i hi => by
    have hi4 : i < 4 := hi
    rw [Nat.zero_add]
    match i, hi4 with
    | 0, _ | 1, _ | 2, _ | 3, _ => exact cell_of_row _ _ _ _ _ _ h⟩

theorem own_row4 {w : World} {g B a b c d : Nat} {t : TypeId} (h : w.heap[g]? = some (.cells (row4 a b c d) t (0, 0))) (hB : B ≤ g) : OwnInts .i64 t w B (some ⟨g, 0, none⟩) [(a : Int), b, c, d] := fun _ =>
  ⟨g, 4, rfl, hB, Nat.le_refl _, fun i => (row4 a b c d).getD i undef, ⟨_, h, rfl, fun i hi => by
    match i, hi with
    | 0, _ | 1, _ | 2, _ | 3, _ => rfl⟩, fun i hi => by
    have hi4 : i < 4 := hi
    match i, hi4 with
    | 0, _ | 1, _ | 2, _ | 3, _ => rfl⟩
end Go.Proofs.Ytkeeijkjemcbcaa
