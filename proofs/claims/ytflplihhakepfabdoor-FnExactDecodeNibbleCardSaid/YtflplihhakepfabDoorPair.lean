/-
  What packing two lists answers. No condition.
-/
import Derived.Test.YtflplihhakepfabDoorPackBits
import Derived.Test.YtflplihhakepfabDoorPlus
import Derived.Deep.RegionLaw
namespace Go.Proofs.YtflplihhakepfabDoor
open Go.RowKit

def pairOk (xs ys : List Int) : Bool := bitsOk xs && bitsOk ys && decide (xs.length = ys.length)
theorem after1 {w w1 : World} {A : Obj} (h : Below (w.alloc A).heap.size (w.alloc A) w1) :
    w1.heap[w.heap.size]? = some A ∧ w.heap.size < w1.heap.size ∧ Below w.heap.size w w1 := by
  have hs := h.size
  simp only [World.size_alloc] at hs
  refine ⟨(h.block _ (by simp)).trans (heap_alloc_last w A), by omega, ?_⟩
  exact ((Below.refl _ _).alloc (Nat.le_refl _) A).trans (h.mono (by simp))
theorem after2 {w w1 : World} {A C : Obj} (h : Below ((w.alloc A).alloc C).heap.size ((w.alloc A).alloc C) w1) :
    w1.heap[w.heap.size]? = some A ∧ w1.heap[w.heap.size + 1]? = some C ∧ w.heap.size + 1 < w1.heap.size ∧ Below w.heap.size w w1 := by
  have hs := h.size
  simp only [World.size_alloc] at hs
  refine ⟨(h.block _ (by simp; omega)).trans (heap_prev2 w A C), (h.block _ (by simp)).trans (heap_last2 w A C), by omega, ?_⟩
  exact (((Below.refl _ _).alloc (Nat.le_refl _) A).alloc (by simp) C).trans (h.mono (by simp; omega))
theorem loadAt_pack {w : World} {g : Nat} {cells : Array Value} (hg : w.heap[g]? = some (.cells cells 43 (0, 0))) (hs : cells.size = 17) :
    (Instr.loadAt 43 (.pointer (some ⟨g, 0, none⟩))).run Tryd.prog w = .ok (.agg cells) w := by
  simp only [Instr.loadAt, Instr.sureAddr, Sem.run_bind, Sem.run_pure, Result.andThen_ok, run_loadVar_row w g 43 43 cells (0, 0) _ hg Tryd.underlying43 rfl (by rw [infoPack, hs])]
theorem storeAt_pack {w : World} {g : Nat} {cells old : Array Value} (hg : w.heap[g]? = some (.cells old 43 (0, 0))) (hs : cells.size = 17) (hold : old.size = 17) (h1 : cells.all (·.oneCell') = true) :
    (Instr.storeAt 43 (.pointer (some ⟨g, 0, none⟩)) (.agg cells)).run Tryd.prog w = .ok () (w.setRow g cells) := by
  simp only [Instr.storeAt, Instr.sureAddr, Sem.run_bind, Sem.run_pure, Result.andThen_ok, run_storeVar_row w g 43 43 old cells hg (by rw [infoPack, hs]) (by rw [hold, hs]) h1]
theorem step_load_pack {ops : Array Oper} {o : Oper} {a : Act} {w : World} {K : Act → World → Prop} {Q : Exit → Act → World → Prop} {E : Prop} (x : Operand) (g : Nat) (cells : Array Value)
    (hg : w.heap[g]? = some (.cells cells 43 (0, 0))) (hs : cells.size = 17)
    (hgd : o.guard = none) (ho : o.op = .load 43 x) (hx : a.eval x = .pointer (some ⟨g, 0, none⟩))
    (h : K (a.put o.dst (.agg cells)) w) : if Region.wanted o (yielded ops a.tmps) = true then Oper.wp Tryd.prog o a w K Q else E := by
  rw [if_pos (by simp [Region.wanted, hgd])]
  exact wp_load_row 43 x ho g hx 43 cells (0, 0) _ hg Tryd.underlying43 rfl (by rw [infoPack, hs]) h
theorem step_store_pack {ops : Array Oper} {o : Oper} {a : Act} {w : World} {K : Act → World → Prop} {Q : Exit → Act → World → Prop} {E : Prop} (x y : Operand) (g : Nat) (cells old : Array Value)
    (hg : w.heap[g]? = some (.cells old 43 (0, 0))) (hs : cells.size = 17) (hold : old.size = 17) (h1 : cells.all (·.oneCell') = true)
    (hgd : o.guard = none) (ho : o.op = .store 43 x y) (hx : a.eval x = .pointer (some ⟨g, 0, none⟩)) (hy : a.eval y = .agg cells)
    (h : K (a.put o.dst undef) (w.setRow g cells)) : if Region.wanted o (yielded ops a.tmps) = true then Oper.wp Tryd.prog o a w K Q else E := by
  rw [if_pos (by simp [Region.wanted, hgd])]
  exact wp_store_row 43 x y ho g cells hx hy 43 old hg (by rw [infoPack, hs]) (by rw [hold, hs]) h1 h
def PairPost (xs ys : List Int) (w : World) (e : Ending) (w' : World) : Prop :=
  ∃ cs cs' P Q, e = .returned (.tuple #[.agg cs, .agg cs', .bool (pairOk xs ys)]) ∧
    (pairOk xs ys = true → IsPack cs P xs.length ∧ Packed P (bitsF xs xs.length) ∧ IsPack cs' Q xs.length ∧ Packed Q (bitsF ys xs.length)) ∧
    cs.size = 17 ∧ cs.all (·.oneCell') = true ∧ cs'.size = 17 ∧ cs'.all (·.oneCell') = true ∧ Below w.heap.size w w'
theorem pairPost_ok {xs ys : List Int} {w w' : World} {cs cs' : Array Value} {P Q : Nat → Nat} (h1 : bitsOk xs = true) (h2 : bitsOk ys = true) (hl : xs.length = ys.length)
    (hp : IsPack cs P xs.length ∧ Packed P (bitsF xs xs.length)) (hq : IsPack cs' Q xs.length ∧ Packed Q (bitsF ys xs.length))
    (s1 : cs.size = 17) (o1 : cs.all (·.oneCell') = true) (s2 : cs'.size = 17) (o2 : cs'.all (·.oneCell') = true) (hb : Below w.heap.size w w') :
    PairPost xs ys w (.returned (.tuple #[.agg cs, .agg cs', .bool true])) w' :=
  ⟨cs, cs', P, Q, by simp [pairOk, h1, h2, hl], fun _ => ⟨hp.1, hp.2, hq.1, hq.2⟩, s1, o1, s2, o2, hb⟩
theorem pairPost_no {xs ys : List Int} {w w' : World} {cs cs' : Array Value} (h : pairOk xs ys = false)
    (s1 : cs.size = 17) (o1 : cs.all (·.oneCell') = true) (s2 : cs'.size = 17) (o2 : cs'.all (·.oneCell') = true) (hb : Below w.heap.size w w') :
    PairPost xs ys w (.returned (.tuple #[.agg cs, .agg cs', .bool false])) w' :=
  ⟨cs, cs', fun _ => 0, fun _ => 0, by rw [h], (fun h' => by rw [h] at h'; cases h'), s1, o1, s2, o2, hb⟩
theorem results_pair {fn : Func} {p q u : Tmp} (h : fn.results = #[.cell p 43, .cell q 43, .tmp u]) (tmps : Array Value) (w : World) (g g' : Nat) (cs cs' : Array Value)
    (hp : tmps.getD p undef = .pointer (some ⟨g, 0, none⟩)) (hq : tmps.getD q undef = .pointer (some ⟨g', 0, none⟩)) (hg : w.heap[g]? = some (.cells cs 43 (0, 0))) (hg' : w.heap[g']? = some (.cells cs' 43 (0, 0)))
    (hs : cs.size = 17) (hs' : cs'.size = 17) :
    (results fn tmps).run Tryd.prog w = .ok (.tuple #[.agg cs, .agg cs', tmps.getD u undef]) w := by
  have r1 := run_loadVar_row (P := Tryd.prog) w g 43 43 cs (0, 0) _ hg Tryd.underlying43 rfl (by rw [infoPack, hs])
  have r2 := run_loadVar_row (P := Tryd.prog) w g' 43 43 cs' (0, 0) _ hg' Tryd.underlying43 rfl (by rw [infoPack, hs'])
  have hp' : tmps[p]?.getD undef = .pointer (some ⟨g, 0, none⟩) := by simpa using hp
  have hq' : tmps[q]?.getD undef = .pointer (some ⟨g', 0, none⟩) := by simpa using hq
  simp [results, h, hp', hq', asAddr, r1, r2, Sem.run_bind]
end Go.Proofs.YtflplihhakepfabDoor
