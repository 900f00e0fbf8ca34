/-
  The law of greedy slots, walked: it returns true for every list of bytes. Condition: bytes that can be read.
-/
import Derived.Test.YtibgpgifdjefnaaDoorSkDraw3
import Derived.Test.YtibgpgifdjefnaaDoorSk4
import Derived.Test.YtibgpgifdjefnaaDoorTwo
import Derived.Test.YtibgpgifdjefnaaDoorLawMath
namespace Go.Proofs.YtibgpgifdjefnaaDoor
open Go.RowKit

theorem listC_ints {L : List Int} {w w' : World} {e : Ending} (h : ListPostC L w e w') : ∃ a c, e = .returned (.slice a L.length c) ∧ Ints .i64 w' w'.heap.size a L ∧ Below w.heap.size w w' := by
  obtain ⟨a, c, h1, _, h3, h4⟩ := h
  exact ⟨a, c, h1, (own_of_list h3).ints, h4⟩
theorem Ints.upN {w w' : World} {a : Option Addr} {xs : List Int} (h : Ints .i64 w w.heap.size a xs) (hb : Below w.heap.size w w') : Ints .i64 w' w'.heap.size a xs := (h.below hb).more hb.size
/-- Greedy slots are valid, and small. -/
theorem sv_of_proper {R : List (List Bool)} {L : List Nat} (hO : TbOk R) (hp : Proper (cf R) L) (hl : L.length = R.length) (hb : Below' 10 L) : svB R (iL L) = true := by
  refine svB_yes ⟨hO, by rw [iL_len, hl], fun i hi => ?_⟩
  rw [iL_len] at hi
  refine ⟨?_, fun j hj hg => ?_⟩
  · have := hb i hi
    rw [iL_el]; omega
  · have := hp i hi j hj hg
    rw [iL_el, iL_el]; omega
theorem gr_b10 {R : List (List Bool)} (hO : TbOk R) : Below' 10 (gr (cf R) R.length) := fun i hi => by
  have h1 := gr_below (cf R) R.length i hi
  have := hO.1
  omega
theorem grL_sv {R : List (List Bool)} (h : tbB R = true) : svB R (grL R) = true := by
  rw [grL_yes h]
  exact sv_of_proper (tbB_ok h) (gr_proper _ _) (gr_len _ _) (gr_b10 (tbB_ok h))
theorem grL_case (R : List (List Bool)) : grL R = [] ∨ (tbB R = true ∧ grL R = iL (gr (cf R) R.length) ∧ 0 < R.length) := by
  cases h : tbB R
  · exact .inl (grL_no h)
  · rcases Nat.eq_zero_or_pos R.length with h0 | h0
    · refine .inl ?_
      rw [grL_yes h, h0]; rfl
    · exact .inr ⟨rfl, grL_yes h, h0⟩
theorem cfN_next (g : Nat → Nat → Bool) (i n : Nat) : cfN g i (n + 1) = cfN g i n + (g i n).toNat := rfl
end Go.Proofs.YtibgpgifdjefnaaDoor
