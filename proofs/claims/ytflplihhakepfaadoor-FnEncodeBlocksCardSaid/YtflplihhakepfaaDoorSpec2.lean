/-
  What the model's AddBits answers, for every two lists.
-/
import Derived.Test.YtflplihhakepfaaDoorSpec1
import Derived.Test.YtflplihhakepfaaDoorGrow
namespace Go.Proofs.YtflplihhakepfaaDoor
open Go.RowKit

theorem bitList_succ (f : Nat → Bool) (k : Nat) : bitList f (k + 1) = bitList f k ++ [((f k).toNat : Int)] := by
  simp only [bitList, List.range_succ, List.map_append, List.map_cons, List.map_nil]
  cases f k <;> rfl
theorem listPost_grow {xs : List Int} {w w' : World} {a : Option Addr} {n cap : Nat} (h : Grow .i64 3 w' w.heap.size a n cap xs) (hb : Below w.heap.size w w') : ListPost xs w (.returned (.slice a n cap)) w' := by
  have hl := h.len
  refine ⟨a, cap, by rw [hl], fun hne => ?_, hb⟩
  have hp : 0 < n := by rw [← hl]; exact List.length_pos_iff.2 hne
  obtain ⟨b, f, rfl, h1, _, h3, h4, h5⟩ := h.row hp
  exact ⟨b, cap, rfl, h1, by omega, f, h4, fun i hi => h5 i (by omega)⟩
theorem Grow.room {k : IntKind} {t : TypeId} {w : World} {base n cap : Nat} {a : Option Addr} {xs : List Int} (h : Grow k t w base a n cap xs) : n ≤ cap ∧ cap ≤ maxLen := by
  rcases h.2 with ⟨e, h0⟩ | ⟨g, c, cur, e, hg, hh, hnc, hcm, _⟩
  · injection e with _ _ e3; rw [h0, e3]; exact ⟨Nat.le_refl _, Nat.zero_le _⟩
  · injection e with _ _ e3; rw [e3]; exact ⟨hnc, hcm⟩
theorem listPostC_grow {xs : List Int} {w w' : World} {a : Option Addr} {n cap : Nat} (h : Grow .i64 3 w' w.heap.size a n cap xs) (hb : Below w.heap.size w w') : ListPostC xs w (.returned (.slice a n cap)) w' := by
  have hr := h.room
  have hl := h.len
  refine ⟨a, cap, by rw [hl], ⟨by rw [hl]; exact hr.1, hr.2⟩, fun hne => ?_, hb⟩
  have hp : 0 < n := by rw [← hl]; exact List.length_pos_iff.2 hne
  obtain ⟨b, f, rfl, h1, _, h3, h4, h5⟩ := h.row hp
  exact ⟨b, cap, rfl, h1, by omega, f, h4, fun i hi => h5 i (by omega)⟩

end Go.Proofs.YtflplihhakepfaaDoor
