/-
  A table of numbers that came in, as the frame opens it. No condition.
-/
import Derived.Test.YtnmhiagnmfpipaaRowsI
import Derived.Lib.SmallJoins
import Derived.Deep.Fields
import Derived.Deep.Slices
import Derived.Deep.SlicePairs
import Derived.ChangeArms
import Derived.ChangeSlices
namespace Go.Proofs.Ytnmhiagnmfpipaa
open Go.Joins Go.ChangeShapes Go.WideShapes Go.RowKit Go.Deep

/-- What the walk is told of a table of numbers that came in. -/
def IsTi (w : World) (a : Option Addr) (len cap : Nat) (zs : List (List Int)) : Prop := zs.length = len ∧ RowsL w w.heap.size a zs ∧ len ≤ cap ∧ cap ≤ maxLen
section
variable {H : Type} {enc : TypeId × Value → H} {w : World} {base : Nat} {spare : Nat → Bool} {held : Bool}
set_option maxRecDepth 10000 in
/-- A slice of integers, as a value in a cell. -/
theorem ints_of_trod {t e : TypeId} {fuel : Nat} {cs : List Value} {x : DataW H × List MemPlace} (ht : Try.prog.underlying t = some (.slice e)) (he : Try.prog.underlying e = some (.int .i64)) (hc : Try.prog.cellsOf e = 1)
    (h : DataW.trod enc Try.prog w base spare held fuel t cs = some x) : ∃ (a : Option Addr) (c : Nat) (xs : List Int), cs = [.slice a xs.length c] ∧ xs.length ≤ c ∧ c ≤ maxLen ∧ Ints .i64 w w.heap.size a xs := by
  rcases open_ints ht he hc h with ⟨hcs, _⟩ | ⟨⟨b, off, spot⟩, l, c, zs, hcs, _, hl, hm, hz, _, hcell, hwz⟩
  · exact ⟨none, 0, [], hcs, Nat.le_refl _, Nat.zero_le _, Ints.nil⟩
  · have hlz : l ≤ zs.length := by rw [hz]; split <;> omega
    have hlen : (zs.take l).length = l := by simp; omega
    refine ⟨_, c, zs.take l, by rw [hlen]; exact hcs, by rw [hlen]; exact hl, hm, fun hn => ?_⟩
    have hpos : 0 < l := by
      rcases Nat.eq_zero_or_pos l with h0 | h0
      · subst h0; simp at hn
      · exact h0
    have h0 := hcell 0 (by omega)
    have hsp : spot = none := by simpa [Addr.add] using World.cell?_spot h0
    subst hsp
    have hadd : ∀ j, (⟨b, off, none⟩ : Addr).add j = ⟨b, off + j, none⟩ := fun j => by unfold Addr.add; split <;> simp_all
    rw [hadd] at h0
    refine ⟨b, off, rfl, World.block_lt_of_cell? _ _ h0, fun i hi => ?_⟩
    rw [hlen] at hi
    have hi' := hcell i (by omega)
    rw [hadd] at hi'
    rw [hi']
    simp [el, hi]
set_option maxRecDepth 10000 in
theorem isTi_of_trod {t ts te : TypeId} {fuel : Nat} {a : Option Addr} {len cap : Nat} {x : DataW H × List MemPlace} (ht : Try.prog.underlying t = some (.slice ts)) (hs : Try.prog.underlying ts = some (.slice te)) (he : Try.prog.underlying te = some (.int .i64))
    (cs_ : Try.prog.cellsOf ts = 1) (ce : Try.prog.cellsOf te = 1) (h : DataW.trod enc Try.prog w base spare held fuel t [.slice a len cap] = some x) : ∃ zs, IsTi w a len cap zs := by
  rcases Go.Deep.open_slice ht h with ⟨hcs, _⟩ | ⟨⟨b, off, spot⟩, l, c, m, n, D, Pl, hcs, _, hl, hm, hmm, _, hcell⟩
  · injection hcs with hcs _
    injection hcs with e1 e2 e3
    subst e1 e2 e3
    exact ⟨[], rfl, fun h => absurd rfl h, Nat.le_refl _, Nat.zero_le _⟩
  · injection hcs with hcs _
    injection hcs with e1 e2 e3
    subst e1 e2 e3
    have hlm : len ≤ m := by rw [hmm]; split <;> omega
    have each : ∀ i, i < m → ∃ q : Option Addr × Nat × List Int, w.cell? ((⟨b, off, spot⟩ : Addr).add i) = some (.slice q.1 q.2.2.length q.2.1) ∧ q.2.2.length ≤ q.2.1 ∧ q.2.1 ≤ maxLen ∧ Ints .i64 w w.heap.size q.1 q.2.2 := fun i him => by
      obtain ⟨cs', hc, ht'⟩ := hcell i him
      rw [cs_, Nat.mul_one] at hc
      obtain ⟨a', c', xs, rfl, g1, g2, g3⟩ := ints_of_trod hs he ce ht'
      obtain ⟨_, _, hat⟩ := World.cells?_some hc
      have h00 := hat 0 (by omega)
      have hz : ((⟨b, off, spot⟩ : Addr).add i).add 0 = (⟨b, off, spot⟩ : Addr).add i := by unfold Addr.add; split <;> simp_all
      rw [hz] at h00
      exact ⟨(a', c', xs), h00, g1, g2, g3⟩
    obtain ⟨q, hq⟩ := Go.Deep.choose_lt each
    have hR : ((List.range len).map fun i => (q i).2.2).length = len := by simp
    refine ⟨(List.range len).map fun i => (q i).2.2, hR, fun hn => ?_, hl, hm⟩
    have hpos : 0 < len := by
      rcases Nat.eq_zero_or_pos len with h0 | h0
      · subst h0; simp at hn
      · exact h0
    obtain ⟨g0, _⟩ := hq 0 (by omega)
    have hsp : spot = none := by simpa [Addr.add] using World.cell?_spot g0
    subst hsp
    have hadd : ∀ j, (⟨b, off, none⟩ : Addr).add j = ⟨b, off + j, none⟩ := fun j => by unfold Addr.add; split <;> simp_all
    rw [hadd] at g0
    refine ⟨b, off, rfl, World.block_lt_of_cell? _ _ g0, fun i hi => ?_⟩
    rw [hR] at hi
    obtain ⟨k1, k2, k3, k4⟩ := hq i (by omega)
    rw [hadd] at k1
    have e : rwI ((List.range len).map fun i => (q i).2.2) i = (q i).2.2 := by simp [rwI, hi]
    rw [e]
    exact ⟨_, _, k1, k2, k3, k4⟩
end
end Go.Proofs.Ytnmhiagnmfpipaa
