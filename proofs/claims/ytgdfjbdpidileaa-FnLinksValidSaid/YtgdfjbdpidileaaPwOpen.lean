/-
  Links that came in, as the frame opens them. No condition.
-/
import Derived.Test.YtgdfjbdpidileaaPw1
import Derived.Lib.SmallJoins
import Derived.Deep.Fields
import Derived.Deep.Slices
import Derived.Deep.SlicePairs
import Derived.ChangeArms
import Derived.ChangeSlices
namespace Go.Proofs.Ytgdfjbdpidileaa
open Go.Joins Go.ChangeShapes Go.WideShapes Go.RowKit Go.Deep

/-- What the walk is told of links that came in. -/
def IsLk (w : World) (v : Value) : Prop :=
  ∃ (a : Option Addr) (c : Nat) (N T : Int) (R : List (List Int)), v = .agg #[.slice a R.length c, .int .i64 N, .int .i64 T] ∧ RowsL w w.heap.size a R ∧ R.length ≤ c ∧ c ≤ maxLen
section
variable {H : Type} {enc : TypeId × Value → H} {w : World} {base : Nat} {spare : Nat → Bool} {held : Bool}
/-- A slice of integers, as a value in a cell. -/
theorem ints_of_trod {t e : TypeId} {fuel : Nat} {cs : List Value} {x : DataW H × List MemPlace} (ht : Try.prog.underlying t = some (.slice e)) (he : Try.prog.underlying e = some (.int .i64)) (hc : Try.prog.cellsOf e = 1)
    (h : DataW.trod enc Try.prog w base spare held fuel t cs = some x) : ∃ (a : Option Addr) (c : Nat) (xs : List Int), cs = [.slice a xs.length c] ∧ xs.length ≤ c ∧ c ≤ maxLen ∧ Ints .i64 w w.heap.size a xs := by
  rcases open_ints ht he hc h with ⟨hcs, _⟩ | ⟨⟨b, off, spot⟩, l, c, zs, hcs, _, hl, hm, hz, _, hcell, hwz⟩
  · exact ⟨none, 0, [], hcs, Nat.le_refl _, Nat.zero_le _, Ints.nil⟩
  · have hlz : l ≤ zs.length := by rw [hz]; split <;> omega
    have hlen : (zs.take l).length = l := by simp; omega
    refine ⟨_, c, zs.take l, by rw [hlen]; exact hcs, by rw [hlen]; exact hl, hm, fun hn => ?_⟩
    have hpos : 0 < l := by
      rcases Nat.eq_zero_or_pos l with h0 | h0
      · subst h0; simp at hn
      · exact h0
    have h0 := hcell 0 (by omega)
    have hsp : spot = none := by simpa [Addr.add] using World.cell?_spot h0
    subst hsp
    have hadd : ∀ j, (⟨b, off, none⟩ : Addr).add j = ⟨b, off + j, none⟩ := fun j => by unfold Addr.add; split <;> simp_all
    rw [hadd] at h0
    refine ⟨b, off, rfl, World.block_lt_of_cell? _ _ h0, fun i hi => ?_⟩
    rw [hlen] at hi
    have hi' := hcell i (by omega)
    rw [hadd] at hi'
    rw [hi']
    simp [el, hi]
theorem isLk_of_trod {t ts te ti : TypeId} {f0 f1 f2 : Field} {r : Reach} {b0 : Nat} {v : Value} {d : DataW H} {p : List MemPlace} (hs : Try.prog.underlying t = some (.struct #[f0, f1, f2])) (hone : oneCellFields Try.prog #[f0, f1, f2] = true)
    (hC : Try.prog.cellsOf t = 3) (t0 : f0.type = ts) (t1 : f1.type = ti) (t2 : f2.type = ti) (hss : Try.prog.underlying ts = some (.slice te)) (hse : Try.prog.underlying te = some (.slice ti)) (hi : Try.prog.underlying ti = some (.int .i64))
    (ce : Try.prog.cellsOf te = 1) (ci : Try.prog.cellsOf ti = 1) (hv : Value.okWide Try.prog w r b0 t v) (h : DataW.Trod enc Try.prog w base spare held t v d p) : IsLk w v := by
  obtain ⟨v0, v1, v2, y0, y1, y2, n, rfl, _, _, h0, h1, h2⟩ := open_agg3 hs hone hC hv h
  rw [t0] at h0
  rw [t1] at h1
  rw [t2] at h2
  obtain ⟨N, e1, _⟩ := DataW.trod_int hi h1
  obtain ⟨T, e2, _⟩ := DataW.trod_int hi h2
  injection e1 with e1
  injection e2 with e2
  subst e1 e2
  rcases Go.Deep.open_slice hss h0 with ⟨hcs, _⟩ | ⟨⟨b, off, spot⟩, l, c, m, n, D, Pl, hcs, _, hl, hm, hmm, _, hcell⟩
  · injection hcs with hcs
    subst hcs
    exact ⟨none, 0, N, T, [], rfl, fun h => absurd rfl h, Nat.le_refl _, Nat.zero_le _⟩
  · injection hcs with hcs
    subst hcs
    have hlm : l ≤ m := by rw [hmm]; split <;> omega
    have each : ∀ i, i < m → ∃ q : Option Addr × Nat × List Int, w.cell? ((⟨b, off, spot⟩ : Addr).add i) = some (.slice q.1 q.2.2.length q.2.1) ∧ q.2.2.length ≤ q.2.1 ∧ q.2.1 ≤ maxLen ∧ Ints .i64 w w.heap.size q.1 q.2.2 := fun i him => by
      obtain ⟨cs', hc, ht'⟩ := hcell i him
      rw [ce, Nat.mul_one] at hc
      obtain ⟨a', c', xs, rfl, g1, g2, g3⟩ := ints_of_trod hse hi ci ht'
      obtain ⟨_, _, hat⟩ := World.cells?_some hc
      have h00 := hat 0 (by omega)
      have hz : ((⟨b, off, spot⟩ : Addr).add i).add 0 = (⟨b, off, spot⟩ : Addr).add i := by unfold Addr.add; split <;> simp_all
      rw [hz] at h00
      exact ⟨(a', c', xs), h00, g1, g2, g3⟩
    obtain ⟨q, hq⟩ := Go.Deep.choose_lt each
    have hR : ((List.range l).map fun i => (q i).2.2).length = l := by simp
    refine ⟨_, c, N, T, (List.range l).map fun i => (q i).2.2, by rw [hR], fun hn => ?_, by rw [hR]; exact hl, hm⟩
    have hpos : 0 < l := by
      rcases Nat.eq_zero_or_pos l with h0 | h0
      · subst h0; simp at hn
      · exact h0
    obtain ⟨g0, _⟩ := hq 0 (by omega)
    have hsp : spot = none := by simpa [Addr.add] using World.cell?_spot g0
    subst hsp
    have hadd : ∀ j, (⟨b, off, none⟩ : Addr).add j = ⟨b, off + j, none⟩ := fun j => by unfold Addr.add; split <;> simp_all
    rw [hadd] at g0
    refine ⟨b, off, rfl, World.block_lt_of_cell? _ _ g0, fun i hi => ?_⟩
    rw [hR] at hi
    obtain ⟨k1, k2, k3, k4⟩ := hq i (by omega)
    rw [hadd] at k1
    have e : rwI ((List.range l).map fun i => (q i).2.2) i = (q i).2.2 := by simp [rwI, hi]
    rw [e]
    exact ⟨_, _, k1, k2, k3, k4⟩
end
end Go.Proofs.Ytgdfjbdpidileaa
