/-
  What the models of DecodeNibble, EncodeBlocks and DecodeBlocks answer, for every list. Conditions: a list that can be read, a slice's room.
-/
import Derived.Test.YtmhngakfjlkchaaNib4
import Derived.Test.YtmhngakfjlkchaaDraws
namespace Go.Proofs.Ytmhngakfjlkchaa
open Go.RowKit

/-- A row that was written once, as a list. -/
theorem ints_put {w : World} {b cap k : Nat} {t : TypeId} {f : Nat → Value} {xs : List Int} {v : Int} (h : w.rowIs b t cap f) (hf : ∀ i, i < xs.length → f i = .int .i64 (el xs i)) (hl : xs.length ≤ cap) :
    Ints .i64 (w.setCell ⟨b, k, none⟩ (.int .i64 v)) (w.setCell ⟨b, k, none⟩ (.int .i64 v)).heap.size (some ⟨b, 0, none⟩) (xs.set k v) := fun _ => by
  have h2 := h.set k (.int .i64 v)
  refine ⟨b, 0, rfl, h2.lt, fun i hi => ?_⟩
  have hi2 : i < xs.length := by simpa using hi
  rw [Nat.zero_add, h2.cell (by omega)]
  by_cases e : i = k
  · subst e; simp [el, hi2]
  · simp only [e, if_false, hf i hi2]
    have e2 : ¬ k = i := fun x => e x.symm
    simp [el, e2]
theorem ints_cells {w : World} {B b : Nat} {xs : List Int} (h : Ints .i64 w B (some ⟨b, 0, none⟩) xs) {i : Nat} (hi : i < xs.length) : w.cell? ⟨b, i, none⟩ = some (.int .i64 (el xs i)) := by
  obtain ⟨b', off, e, _, hc⟩ := h.at_ hi
  injection e with e
  injection e with e1 e2
  subst e1 e2
  rw [Nat.zero_add] at hc
  exact hc
theorem decPost_mk {xs zs : List Int} {w w' : World} {a : Option Addr} {n cap : Nat} {f : Bool} (hz : decOr xs = zs) (hf : fixOr xs = f) (h : ListPostC zs w (.returned (.slice a n cap)) w') : DecPost xs w (.returned (.tuple #[.slice a n cap, .bool f])) w' := by
  obtain ⟨a', cap', e, h1, h2, h3⟩ := h
  injection e with e
  injection e with e1 e2 e3
  subst e1 e2 e3
  unfold DecPost
  rw [hz, hf]
  exact ⟨a, cap, rfl, h1, h2, h3⟩
end Go.Proofs.Ytmhngakfjlkchaa
