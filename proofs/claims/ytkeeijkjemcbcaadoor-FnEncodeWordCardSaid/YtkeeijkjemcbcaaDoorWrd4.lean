/-
  What the syndromes, the check symbols and the functions of the symbol code answer. Conditions: a list that can be read; the program's four tables lie in their variables.
-/
import Derived.Test.YtkeeijkjemcbcaaDoorWrd3
import Derived.Test.YtkeeijkjemcbcaaDoorSliceFns
namespace Go.Proofs.YtkeeijkjemcbcaaDoor
open Go.RowKit

/-- The variable wordZeros holds the zeros of the code; the variable wordGenerator the generator's coefficients. -/
def zerL : List Int := [2, 4, 8, 3]
def genL : List Int := [13, 12, 8, 7]
def ZerTab (w : World) : Prop := 1 < w.heap.size ∧ ∀ i, i < 4 → w.cell? ⟨1, i, none⟩ = some (.int .i64 (el zerL i))
def GenTab (w : World) : Prop := 0 < w.heap.size ∧ ∀ i, i < 4 → w.cell? ⟨0, i, none⟩ = some (.int .i64 (el genL i))
theorem ZerTab.next {w w' : World} (h : ZerTab w) (hb : Below w.heap.size w w') : ZerTab w' := ⟨Nat.lt_of_lt_of_le h.1 hb.size, fun i hi => (hb.cell h.1).trans (h.2 i hi)⟩
theorem GenTab.next {w w' : World} (h : GenTab w) (hb : Below w.heap.size w w') : GenTab w' := ⟨Nat.lt_of_lt_of_le h.1 hb.size, fun i hi => (hb.cell h.1).trans (h.2 i hi)⟩
theorem syn6_pol {xs : List Int} (h : wok 15 xs = true) {k z : Nat} (hz : z = zr k) : polOr xs (z : Int) = (syn6 (co xs) k : Int) := by
  obtain ⟨h1, h2⟩ := wok_parts h
  have hc : coOk xs = true := by simp [coOk, h1, h2]
  rw [polOr_nat (by rw [hz]; exact zr_lt k) hc, h1, hz]; rfl

theorem info4 : (Tryd.prog.info? 42).map (·.size) = some 4 := by kernel_rfl
theorem load4 {ops : Array Oper} {rest : List Oper} {o : Oper} {a : Act} {w : World} {Q : Exit → Act → World → Prop} (x : Operand) (g : Nat) (cells : Array Value)
    (hg : w.heap[g]? = some (.cells cells 42 (0, 0))) (hs : cells.size = 4)
    (hgd : o.guard = none) (ho : o.op = .load 42 x) (hx : a.eval x = .pointer (some ⟨g, 0, none⟩))
    (h : wpList Tryd.prog ops Q rest (a.put o.dst (.agg cells)) w) : wpList Tryd.prog ops Q (o :: rest) a w :=
  wpList_load_row hgd 42 x ho g hx 42 cells (0, 0) _ hg Tryd.underlying42 rfl (by rw [info4, hs]) h
theorem store4 {ops : Array Oper} {rest : List Oper} {o : Oper} {a : Act} {w : World} {Q : Exit → Act → World → Prop} (x y : Operand) (g : Nat) (cells old : Array Value)
    (hg : w.heap[g]? = some (.cells old 42 (0, 0))) (hs : cells.size = 4) (hold : old.size = 4) (h1 : cells.all (·.oneCell') = true)
    (hgd : o.guard = none) (ho : o.op = .store 42 x y) (hx : a.eval x = .pointer (some ⟨g, 0, none⟩)) (hy : a.eval y = .agg cells)
    (h : wpList Tryd.prog ops Q rest (a.put o.dst undef) (w.setRow g cells)) : wpList Tryd.prog ops Q (o :: rest) a w :=
  wpList_store_row hgd 42 x y ho g cells hx hy 42 old hg (by rw [info4, hs]) (by rw [hold, hs]) h1 h
theorem index4 (xs : Array Value) (k : Nat) (v : Value) (w : World) (hk : k < 4) (hv : xs[k]? = some v) : (Instr.index 42 (.agg xs) (.int .i64 k)).run Tryd.prog w = .ok v w := by
  obtain ⟨i0, hi0, hz0, hz1, hz2⟩ := info_parts Tryd.infoInt
  have h1 : (0 : Int) ≤ (k : Int) ∧ (k : Int) < 4 := by omega
  simp [Instr.index, asIntOf, run_underlying Tryd.underlying42, sizeOf, typeInfo, hi0, hz1, h1, part, isAgg, run_underlying Tryd.underlying3, hv]
  omega
/-- Four numbers as cells. -/
def row4 (a b c d : Nat) : Array Value := #[.int .i64 a, .int .i64 b, .int .i64 c, .int .i64 d]
theorem row4_one (a b c d : Nat) : (row4 a b c d).all (·.oneCell') = true := by simp [row4, Value.oneCell']
/-- A call's two blocks: the one for the result, and its own array, which holds four numbers. -/
def V4 (w W : World) (q0 q1 q2 q3 : Nat) : Prop := W.heap[w.heap.size]? = some (.cells (row4 0 0 0 0) 42 (0, 0)) ∧ W.heap[w.heap.size + 1]? = some (.cells (row4 q0 q1 q2 q3) 42 (0, 0)) ∧ Below w.heap.size w W
section
variable {w W W' : World} {q0 q1 q2 q3 : Nat}
theorem V4.new (w : World) : V4 w ((w.alloc (.cells #[.int .i64 0, .int .i64 0, .int .i64 0, .int .i64 0] 42)).alloc (.cells #[.int .i64 0, .int .i64 0, .int .i64 0, .int .i64 0] 42)) 0 0 0 0 :=
  ⟨heap_prev2 _ _ _, heap_last2 _ _ _, (below_alloc w _).alloc (by simp) _⟩
theorem V4.drewN (h : V4 w W q0 q1 q2 q3) (n : Nat) : V4 w (W.drewN n) q0 q1 q2 q3 := ⟨h.1, h.2.1, below_drewN h.2.2 n⟩
theorem V4.next (h : V4 w W q0 q1 q2 q3) (hb : Below W.heap.size W W') : V4 w W' q0 q1 q2 q3 :=
  ⟨(hb.block _ (Array.getElem?_eq_some_iff.1 h.1).1).trans h.1, (hb.block _ (Array.getElem?_eq_some_iff.1 h.2.1).1).trans h.2.1, h.2.2.trans (hb.mono h.2.2.size)⟩
theorem V4.cells (h : V4 w W q0 q1 q2 q3) : W.cell? ⟨w.heap.size + 1, 0, none⟩ = some (.int .i64 q0) ∧ W.cell? ⟨w.heap.size + 1, 1, none⟩ = some (.int .i64 q1) ∧ W.cell? ⟨w.heap.size + 1, 2, none⟩ = some (.int .i64 q2) ∧ W.cell? ⟨w.heap.size + 1, 3, none⟩ = some (.int .i64 q3) :=
  ⟨cell_of_row _ _ _ _ _ _ h.2.1, cell_of_row _ _ _ _ _ _ h.2.1, cell_of_row _ _ _ _ _ _ h.2.1, cell_of_row _ _ _ _ _ _ h.2.1⟩
theorem V4.frozen (h : V4 w W q0 q1 q2 q3) (i : Nat) : W.frozen? ⟨w.heap.size + 1, i, none⟩ = false := by simp [World.frozen?, h.2.1]
theorem V4.set (h : V4 w W q0 q1 q2 q3) {i : Nat} {v : Value} {r0 r1 r2 r3 : Nat} (hr : (row4 q0 q1 q2 q3).setIfInBounds i v = row4 r0 r1 r2 r3) : V4 w (W.setCell ⟨w.heap.size + 1, i, none⟩ v) r0 r1 r2 r3 := by
  refine ⟨(Below.heap_setCell W ⟨w.heap.size + 1, i, none⟩ v _ (by show w.heap.size ≠ w.heap.size + 1; omega)).trans h.1, ?_, h.2.2.setCell (by show w.heap.size ≤ w.heap.size + 1; omega) _⟩
  rw [setCell_eq_setRow W (w.heap.size + 1) i _ _ _ _ h.2.1, hr]
  exact setRow_heap _ _ _ _ _ _ h.2.1
end
set_option maxHeartbeats 1000000 in
theorem syndromesOf_any (a : Option Addr) (c : Nat) (xs : List Int) (w : World) (hx : Ints .i64 w w.heap.size a xs) (hk : wok 15 xs = true) (hT : Tabs2 w) (hZ : ZerTab w) :
    Calls Tryd.prog 42 #[.slice a xs.length c] w fun e w' => e = .returned (arr4 (syn6 (co xs) 0) (syn6 (co xs) 1) (syn6 (co xs) 2) (syn6 (co xs) 3)) ∧ Below w.heap.size w w' := by
  have p0 : polOr xs 2 = (syn6 (co xs) 0 : Int) := syn6_pol hk (k := 0) (z := 2) rfl
  have p1 : polOr xs 4 = (syn6 (co xs) 1 : Int) := syn6_pol hk (k := 1) (z := 4) rfl
  have p2 : polOr xs 8 = (syn6 (co xs) 2 : Int) := syn6_pol hk (k := 2) (z := 8) rfl
  have p3 : polOr xs 3 = (syn6 (co xs) 3 : Int) := syn6_pol hk (k := 3) (z := 3) rfl
  have HP := Lib.hid (fun W z (hb : Below w.heap.size w W) => polynomialAt_any a c w.heap.size xs z W (hx.below hb) (hT.next hb))
  generalize syn6 (co xs) 0 = s0 at *
  generalize syn6 (co xs) 1 = s1 at *
  generalize syn6 (co xs) 2 = s2 at *
  generalize syn6 (co xs) 3 = s3 at *
  have P0 := Lib.hid p0
  have P1 := Lib.hid p1
  have P2 := Lib.hid p2
  have P3 := Lib.hid p3
  have z0 : ∀ o o', ((w.alloc o).alloc o').cell? ⟨1, 0, none⟩ = some (.int .i64 2) := fun o o' => ((hZ.next (below_alloc w o)).next (below_alloc _ o')).2 0 (by omega)
  have z1 : ∀ o o', ((w.alloc o).alloc o').cell? ⟨1, 1, none⟩ = some (.int .i64 4) := fun o o' => ((hZ.next (below_alloc w o)).next (below_alloc _ o')).2 1 (by omega)
  have z2 : ∀ o o', ((w.alloc o).alloc o').cell? ⟨1, 2, none⟩ = some (.int .i64 8) := fun o o' => ((hZ.next (below_alloc w o)).next (below_alloc _ o')).2 2 (by omega)
  have z3 : ∀ o o', ((w.alloc o).alloc o').cell? ⟨1, 3, none⟩ = some (.int .i64 3) := fun o o' => ((hZ.next (below_alloc w o)).next (below_alloc _ o')).2 3 (by omega)
  have i0 : ∀ W, (Instr.index 42 (.agg #[.int .i64 2, .int .i64 4, .int .i64 8, .int .i64 3]) (.int .i64 0)).run Tryd.prog W = .ok (.int .i64 2) W := fun W => index4 _ 0 _ W (by omega) rfl
  have i1 : ∀ W, (Instr.index 42 (.agg #[.int .i64 2, .int .i64 4, .int .i64 8, .int .i64 3]) (.int .i64 1)).run Tryd.prog W = .ok (.int .i64 4) W := fun W => index4 _ 1 _ W (by omega) rfl
  have i2 : ∀ W, (Instr.index 42 (.agg #[.int .i64 2, .int .i64 4, .int .i64 8, .int .i64 3]) (.int .i64 2)).run Tryd.prog W = .ok (.int .i64 8) W := fun W => index4 _ 2 _ W (by omega) rfl
  have i3 : ∀ W, (Instr.index 42 (.agg #[.int .i64 2, .int .i64 4, .int .i64 8, .int .i64 3]) (.int .i64 3)).run Tryd.prog W = .ok (.int .i64 3) W := fun W => index4 _ 3 _ W (by omega) rfl
  have V0 := Lib.hid (V4.new w)
  clear hx hT hZ hk p0 p1 p2 p3
  unfold arr4
  go_enter Tryd.func42, Tryd.ntmps42
  go_wp2
  clear z0 z1 z2 z3
  refine wp_loop_rounds 5 ?_
  generalize (w.alloc (.cells #[.int .i64 0, .int .i64 0, .int .i64 0, .int .i64 0] 42)).alloc (.cells #[.int .i64 0, .int .i64 0, .int .i64 0, .int .i64 0] 42) = W0 at *
  rw [rounds_succ]
  go_wp2_with fail
  refine (HP.out _ 2 V0.out.2.2).mono ?_
  rw [P0.out]
  rintro e w' ⟨rfl, n0, rfl⟩
  have U0 := Lib.hid (V0.out.drewN n0)
  clear V0
  generalize W0.drewN n0 = Y0 at *
  obtain ⟨c0, c1, c2, c3⟩ := U0.out.cells
  have f0 := U0.out.frozen 0
  have V1 := Lib.hid (U0.out.set (i := 0) (v := .int .i64 (s0 : Int)) (r0 := s0) (r1 := 0) (r2 := 0) (r3 := 0) rfl)
  go_wp2
  clear U0 c0 c1 c2 c3 f0
  generalize Y0.setCell ⟨w.heap.size + 1, 0, none⟩ (.int .i64 (s0 : Int)) = W1 at *
  rw [rounds_succ]
  go_wp2_with fail
  refine (HP.out _ 4 V1.out.2.2).mono ?_
  rw [P1.out]
  rintro e w' ⟨rfl, n1, rfl⟩
  have U1 := Lib.hid (V1.out.drewN n1)
  clear V1
  generalize W1.drewN n1 = Y1 at *
  obtain ⟨c0, c1, c2, c3⟩ := U1.out.cells
  have f0 := U1.out.frozen 1
  have V2 := Lib.hid (U1.out.set (i := 1) (v := .int .i64 (s1 : Int)) (r0 := s0) (r1 := s1) (r2 := 0) (r3 := 0) rfl)
  go_wp2
  clear U1 c0 c1 c2 c3 f0
  generalize Y1.setCell ⟨w.heap.size + 1, 1, none⟩ (.int .i64 (s1 : Int)) = W2 at *
  rw [rounds_succ]
  go_wp2_with fail
  refine (HP.out _ 8 V2.out.2.2).mono ?_
  rw [P2.out]
  rintro e w' ⟨rfl, n2, rfl⟩
  have U2 := Lib.hid (V2.out.drewN n2)
  clear V2
  generalize W2.drewN n2 = Y2 at *
  obtain ⟨c0, c1, c2, c3⟩ := U2.out.cells
  have f0 := U2.out.frozen 2
  have V3 := Lib.hid (U2.out.set (i := 2) (v := .int .i64 (s2 : Int)) (r0 := s0) (r1 := s1) (r2 := s2) (r3 := 0) rfl)
  go_wp2
  clear U2 c0 c1 c2 c3 f0
  generalize Y2.setCell ⟨w.heap.size + 1, 2, none⟩ (.int .i64 (s2 : Int)) = W3 at *
  rw [rounds_succ]
  go_wp2_with fail
  refine (HP.out _ 3 V3.out.2.2).mono ?_
  rw [P3.out]
  rintro e w' ⟨rfl, n3, rfl⟩
  have U3 := Lib.hid (V3.out.drewN n3)
  clear V3
  generalize W3.drewN n3 = Y3 at *
  obtain ⟨c0, c1, c2, c3⟩ := U3.out.cells
  have f0 := U3.out.frozen 3
  have VV := Lib.hid (U3.out.set (i := 3) (v := .int .i64 (s3 : Int)) (r0 := s0) (r1 := s1) (r2 := s2) (r3 := s3) rfl)
  go_wp2
  clear U3 c0 c1 c2 c3 f0
  generalize Y3.setCell ⟨w.heap.size + 1, 3, none⟩ (.int .i64 (s3 : Int)) = W4 at *
  rw [rounds_succ]
  go_wp2_with (first | (refine load4 (.tmp 3) (w.heap.size + 1) (row4 s0 s1 s2 s3) VV.out.2.1 rfl rfl rfl rfl ?_) | (refine store4 (.tmp 2) (.tmp 17) w.heap.size (row4 s0 s1 s2 s3) (row4 0 0 0 0) VV.out.1 rfl rfl (row4_one _ _ _ _) rfl rfl rfl rfl ?_))
  refine bodyPost_ret (results_cell_row (P := Tryd.prog) rfl _ _ w.heap.size 42 (row4 s0 s1 s2 s3) (0, 0) _ rfl (setRow_heap _ _ _ _ _ _ VV.out.1) Tryd.underlying42 rfl info4) rfl ?_
  exact ⟨rfl, below_setRow VV.out.2.2 (Nat.le_refl _) _⟩
end Go.Proofs.YtkeeijkjemcbcaaDoor
