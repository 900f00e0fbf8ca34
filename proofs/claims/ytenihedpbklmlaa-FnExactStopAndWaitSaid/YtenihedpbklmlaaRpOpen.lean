/-
  A slice of Booleans that came in, as the frame opens it. No condition.
-/
import Derived.Test.YtenihedpbklmlaaRp1
import Derived.Deep.Slices
import Derived.ChangeArms
namespace Go.Proofs.Ytenihedpbklmlaa
open Go.RowKit

/-- What the walk is told of a slice of Booleans that came in. -/
def IsBl (w : World) (a : Option Addr) (len cap : Nat) (zs : List Bool) : Prop := zs.length = len ∧ Bls w w.heap.size a zs ∧ len ≤ cap ∧ cap ≤ maxLen
set_option maxRecDepth 10000 in
theorem isBl_of_trod {H : Type} {enc : TypeId × Value → H} {w : World} {base : Nat} {spare : Nat → Bool} {held : Bool} {t e : TypeId} {fuel : Nat} {a : Option Addr} {len cap : Nat} {x : DataW H × List MemPlace}
    (ht : Try.prog.underlying t = some (.slice e)) (he : Try.prog.underlying e = some .bool) (ce : Try.prog.cellsOf e = 1)
    (h : DataW.trod enc Try.prog w base spare held fuel t [.slice a len cap] = some x) : ∃ zs, IsBl w a len cap zs := by
  rcases Go.Deep.open_slice1 ht ce h with ⟨hcs, _⟩ | ⟨⟨b, off, spot⟩, l, c, m, n, V, D, P, hcs, _, hlc, hm, hmm, _, hcell⟩
  · simp only [List.cons.injEq, Value.slice.injEq, and_true] at hcs
    obtain ⟨rfl, rfl, rfl⟩ := hcs
    exact ⟨[], rfl, Bls.nil, Nat.le_refl _, Nat.zero_le _⟩
  · simp only [List.cons.injEq, Value.slice.injEq, and_true] at hcs
    obtain ⟨rfl, rfl, rfl⟩ := hcs
    have hlm : len ≤ m := by rw [hmm]; split <;> omega
    have each : ∀ i, i < m → ∃ q : Bool, V i = .bool q := fun i him => by
      obtain ⟨_, h0⟩ := hcell i him
      obtain ⟨q, e0, _⟩ := DataW.trod_bool he h0
      injection e0 with e0
      exact ⟨q, e0⟩
    obtain ⟨q, hq⟩ := Go.Deep.choose_lt each
    refine ⟨(List.range len).map q, by simp, fun hne => ?_, hlc, hm⟩
    have hpos : 0 < len := by
      rcases Nat.eq_zero_or_pos len with h0 | h0
      · subst h0; simp at hne
      · exact h0
    obtain ⟨g0, _⟩ := hcell 0 (by omega)
    have hsp : spot = none := by simpa [Addr.add] using World.cell?_spot g0
    subst hsp
    have hadd : ∀ j, (⟨b, off, none⟩ : Addr).add j = ⟨b, off + j, none⟩ := fun j => by unfold Addr.add; split <;> simp_all
    refine ⟨b, off, rfl, ?_, fun i hi => ?_⟩
    · rcases Nat.lt_or_ge b w.heap.size with hlt | hge
      · exact hlt
      · have hnone : w.heap[b]? = none := Array.getElem?_eq_none hge
        rw [hadd] at g0
        simp [World.cell?, hnone] at g0
    · have hil : i < len := by simpa using hi
      obtain ⟨h0, _⟩ := hcell i (by omega)
      rw [hadd, hq i (by omega)] at h0
      rw [h0]
      simp [bt, hil]
end Go.Proofs.Ytenihedpbklmlaa
