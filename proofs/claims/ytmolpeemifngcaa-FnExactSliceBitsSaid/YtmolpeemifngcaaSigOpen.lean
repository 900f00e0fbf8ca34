/-
  A slice of samples that came in, as the frame opens it. No condition.
-/
import Derived.Test.YtmolpeemifngcaaSigMem
import Derived.Deep.SlicePairs
import Derived.ChangeArms
namespace Go.Proofs.Ytmolpeemifngcaa
open Go.RowKit

/-- What the walk is told of a slice of samples that came in. -/
def IsSig (w : World) (a : Option Addr) (len cap : Nat) (zs : List Smp) : Prop := zs.length = len ∧ Sigs w w.heap.size a zs ∧ len ≤ cap ∧ cap ≤ maxLen
theorem isSig_of_trod {H : Type} {enc : TypeId × Value → H} {w : World} {base : Nat} {spare : Nat → Bool} {held : Bool} {t e ti : TypeId} {f0 f1 : Field} {fuel : Nat} {a : Option Addr} {len cap : Nat} {x : DataW H × List MemPlace}
    (ht : Try.prog.underlying t = some (.slice e)) (he : Try.prog.underlying e = some (.struct #[f0, f1])) (hi : Try.prog.underlying ti = some (.int .i64)) (ce : Try.prog.cellsOf e = 2) (o0 : f0.offset = 0) (o1 : f1.offset = 1)
    (t0 : f0.type = ti) (t1 : f1.type = ti) (c0 : Try.prog.cellsOf ti = 1) (h : DataW.trod enc Try.prog w base spare held fuel t [.slice a len cap] = some x) : ∃ zs, IsSig w a len cap zs := by
  rcases Go.Deep.open_slice_pairs ht he ce o0 o1 (by rw [t0]; exact c0) (by rw [t1]; exact c0) h with ⟨hcs, _⟩ | ⟨⟨b, off, spot⟩, l, c, m, n, V0, V1, D0, D1, P0, P1, hcs, _, hlc, hm, hmm, _, hcell⟩
  · simp only [List.cons.injEq, Value.slice.injEq, and_true] at hcs
    obtain ⟨rfl, rfl, rfl⟩ := hcs
    exact ⟨[], rfl, Sigs.nil, Nat.le_refl _, Nat.zero_le _⟩
  · simp only [List.cons.injEq, Value.slice.injEq, and_true] at hcs
    obtain ⟨rfl, rfl, rfl⟩ := hcs
    have hlm : len ≤ m := by rw [hmm]; split <;> omega
    have each : ∀ i, i < m → ∃ q : Int × Int, V0 i = .int .i64 q.1 ∧ V1 i = .int .i64 q.2 := fun i him => by
      obtain ⟨_, _, h0, h1⟩ := hcell i him
      rw [t0] at h0
      rw [t1] at h1
      obtain ⟨n0, e0, _⟩ := DataW.trod_int hi h0
      obtain ⟨n1, e1, _⟩ := DataW.trod_int hi h1
      injection e0 with e0
      injection e1 with e1
      exact ⟨(n0, n1), e0, e1⟩
    obtain ⟨q, hq⟩ := Go.Deep.choose_lt each
    refine ⟨(List.range len).map q, by simp, fun hne => ?_, hlc, hm⟩
    have hpos : 0 < len := by
      rcases Nat.eq_zero_or_pos len with h0 | h0
      · subst h0; simp at hne
      · exact h0
    obtain ⟨g0, _, _, _⟩ := hcell 0 (by omega)
    have hsp : spot = none := by simpa [Addr.add] using World.cell?_spot g0
    subst hsp
    have hadd : ∀ j, (⟨b, off, none⟩ : Addr).add j = ⟨b, off + j, none⟩ := fun j => by unfold Addr.add; split <;> simp_all
    refine ⟨b, off, rfl, ?_, fun i hi => ?_⟩
    · rcases Nat.lt_or_ge b w.heap.size with hlt | hge
      · exact hlt
      · have hnone : w.heap[b]? = none := Array.getElem?_eq_none hge
        rw [hadd] at g0
        simp [World.cell?, hnone] at g0
    · have hil : i < len := by simpa using hi
      obtain ⟨h0, h1, _, _⟩ := hcell i (by omega)
      obtain ⟨e0, e1⟩ := hq i (by omega)
      rw [hadd, e0] at h0
      rw [hadd, e1, ← Nat.add_assoc] at h1
      rw [h0, h1]
      simp [sI, sQ, sp, hil]
end Go.Proofs.Ytmolpeemifngcaa
