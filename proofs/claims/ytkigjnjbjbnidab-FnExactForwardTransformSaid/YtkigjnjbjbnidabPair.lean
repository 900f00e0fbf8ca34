/-
  What packing two lists answers. No condition.
-/
import Derived.Test.YtkigjnjbjbnidabPackBits
import Derived.Test.YtkigjnjbjbnidabPlus
import Derived.Deep.RegionLaw
namespace Go.Proofs.Ytkigjnjbjbnidab
open Go.RowKit

def pairOk (xs ys : List Int) : Bool := bitsOk xs && bitsOk ys && decide (xs.length = ys.length)
theorem after1 {w w1 : World} {A : Obj} (h : Below (w.alloc A).heap.size (w.alloc A) w1) :
    w1.heap[w.heap.size]? = some A ∧ w.heap.size < w1.heap.size ∧ Below w.heap.size w w1 := by
  have hs := h.size
  simp only [World.size_alloc] at hs
  refine ⟨(h.block _ (by simp)).trans (heap_alloc_last w A), by omega, ?_⟩
  exact ((Below.refl _ _).alloc (Nat.le_refl _) A).trans (h.mono (by simp))
theorem after2 {w w1 : World} {A C : Obj} (h : Below ((w.alloc A).alloc C).heap.size ((w.alloc A).alloc C) w1) :
    w1.heap[w.heap.size]? = some A ∧ w1.heap[w.heap.size + 1]? = some C ∧ w.heap.size + 1 < w1.heap.size ∧ Below w.heap.size w w1 := by
  have hs := h.size
  simp only [World.size_alloc] at hs
  refine ⟨(h.block _ (by simp; omega)).trans (heap_prev2 w A C), (h.block _ (by simp)).trans (heap_last2 w A C), by omega, ?_⟩
  exact (((Below.refl _ _).alloc (Nat.le_refl _) A).alloc (by simp) C).trans (h.mono (by simp; omega))
def PairPost (xs ys : List Int) (w : World) (e : Ending) (w' : World) : Prop :=
  ∃ cs cs' P Q, e = .returned (.tuple #[.agg cs, .agg cs', .bool (pairOk xs ys)]) ∧
    (pairOk xs ys = true → IsPack cs P xs.length ∧ Packed P (bitsF xs xs.length) ∧ IsPack cs' Q xs.length ∧ Packed Q (bitsF ys xs.length)) ∧
    cs.size = 17 ∧ cs.all (·.oneCell') = true ∧ cs'.size = 17 ∧ cs'.all (·.oneCell') = true ∧ Below w.heap.size w w'
theorem pairPost_ok {xs ys : List Int} {w w' : World} {cs cs' : Array Value} {P Q : Nat → Nat} (h1 : bitsOk xs = true) (h2 : bitsOk ys = true) (hl : xs.length = ys.length)
    (hp : IsPack cs P xs.length ∧ Packed P (bitsF xs xs.length)) (hq : IsPack cs' Q xs.length ∧ Packed Q (bitsF ys xs.length))
    (s1 : cs.size = 17) (o1 : cs.all (·.oneCell') = true) (s2 : cs'.size = 17) (o2 : cs'.all (·.oneCell') = true) (hb : Below w.heap.size w w') :
    PairPost xs ys w (.returned (.tuple #[.agg cs, .agg cs', .bool true])) w' :=
  ⟨cs, cs', P, Q, by simp [pairOk, h1, h2, hl], fun _ => ⟨hp.1, hp.2, hq.1, hq.2⟩, s1, o1, s2, o2, hb⟩
theorem pairPost_no {xs ys : List Int} {w w' : World} {cs cs' : Array Value} (h : pairOk xs ys = false)
    (s1 : cs.size = 17) (o1 : cs.all (·.oneCell') = true) (s2 : cs'.size = 17) (o2 : cs'.all (·.oneCell') = true) (hb : Below w.heap.size w w') :
    PairPost xs ys w (.returned (.tuple #[.agg cs, .agg cs', .bool false])) w' :=
  ⟨cs, cs', fun _ => 0, fun _ => 0, by rw [h], (fun h' => by rw [h] at h'; cases h'), s1, o1, s2, o2, hb⟩
end Go.Proofs.Ytkigjnjbjbnidab
