/-
  The best slots: the search in memory, what it answers. Condition: a table that can be read.
-/
import Derived.Test.YtibgpgifdjefnaaDoorSk4
import Derived.Laws.Cover1
import Derived.Lib.SliceRun
namespace Go.Proofs.YtibgpgifdjefnaaDoor
open Go.RowKit

/-- The search's struct: the sets of conflicts, the stations of ten slots, the slots, the best ones, their number. -/
def SR (W : World) (q : Nat) (cv : Value) (f : Nat → Nat) (sl be : Value) (few : Nat) : Prop :=
  W.rowIs q 48 14 (fun j => if j = 0 then cv else if j ≤ 10 then .int .u16 (f (j - 1) : Int) else if j = 11 then sl else if j = 12 then be else .int .i64 (few : Int))
section
variable {W W' : World} {q : Nat} {cv sl be : Value} {f g : Nat → Nat} {few : Nat}
theorem SR.lt (h : SR W q cv f sl be few) : q < W.heap.size := World.rowIs.lt h
theorem SR.c (h : SR W q cv f sl be few) : W.cell? ⟨q, 0, none⟩ = some cv := World.rowIs.cell h (i := 0) (by omega)
theorem SR.t (h : SR W q cv f sl be few) {c : Nat} (hc : c < 10) : W.cell? ⟨q, 1 + c, none⟩ = some (.int .u16 (f c : Int)) := by
  have := World.rowIs.cell h (i := 1 + c) (by omega)
  rw [this, if_neg (by omega), if_pos (by omega), Nat.add_sub_cancel_left]
theorem SR.s (h : SR W q cv f sl be few) : W.cell? ⟨q, 11, none⟩ = some sl := World.rowIs.cell h (i := 11) (by omega)
theorem SR.b (h : SR W q cv f sl be few) : W.cell? ⟨q, 12, none⟩ = some be := World.rowIs.cell h (i := 12) (by omega)
theorem SR.n (h : SR W q cv f sl be few) : W.cell? ⟨q, 13, none⟩ = some (.int .i64 (few : Int)) := World.rowIs.cell h (i := 13) (by omega)
theorem SR.z (h : SR W q cv f sl be few) (j : Nat) : W.frozen? ⟨q, j, none⟩ = false := World.rowIs.frozen h j
theorem SR.block (h : SR W q cv f sl be few) (hk : W'.heap[q]? = W.heap[q]?) : SR W' q cv f sl be few := World.rowIs.of_block h hk
theorem SR.setT (h : SR W q cv f sl be few) {c : Nat} (hc : c < 10) (d : Nat) (he : ∀ j, j < 10 → g j = if j = c then d else f j) : SR (W.setCell ⟨q, 1 + c, none⟩ (.int .u16 (d : Int))) q cv g sl be few :=
  (World.rowIs.set h (1 + c) (.int .u16 (d : Int))).congr fun j hj => by
    by_cases e0 : j = 0
    · subst e0; simp; intro h; omega
    · by_cases e1 : j ≤ 10
      · simp only [e0, e1, if_false, if_true]
        rw [he (j - 1) (by omega)]
        by_cases e2 : j = 1 + c
        · subst e2; simp
        · simp [e2, show ¬ j - 1 = c by omega]
      · simp [e0, e1, show ¬ j = 1 + c by omega]
theorem SR.setS (h : SR W q cv f sl be few) (v : Value) : SR (W.setCell ⟨q, 11, none⟩ v) q cv f v be few :=
  (World.rowIs.set h 11 v).congr fun j hj => by
    by_cases e : j = 11
    · subst e; simp
    · simp only [e, if_false]
theorem SR.setB (h : SR W q cv f sl be few) (v : Value) : SR (W.setCell ⟨q, 12, none⟩ v) q cv f sl v few :=
  (World.rowIs.set h 12 v).congr fun j hj => by
    by_cases e : j = 12
    · subst e; simp
    · simp only [e, if_false]
theorem SR.setN (h : SR W q cv f sl be few) (n : Nat) : SR (W.setCell ⟨q, 13, none⟩ (.int .i64 (n : Int))) q cv f sl be n :=
  (World.rowIs.set h 13 (.int .i64 (n : Int))).congr fun j hj => by
    by_cases e : j = 13
    · subst e; simp
    · have h1 : j = 0 ∨ j ≤ 10 ∨ j = 11 ∨ j = 12 := by omega
      rcases h1 with h1 | h1 | h1 | h1
      · simp [h1]
      · simp [e, h1]
      · simp [h1]
      · simp [h1]
end
theorem Grow.keep1 {k : IntKind} {t : TypeId} {w w' : World} {base n cap : Nat} {a : Option Addr} {xs : List Int} (h : Grow k t w base a n cap xs) (hk : ∀ g, a = some ⟨g, 0, none⟩ → base ≤ g → g < w.heap.size → w'.heap[g]? = w.heap[g]?) : Grow k t w' base a n cap xs := by
  refine ⟨h.1, ?_⟩
  rcases h.2 with h0 | ⟨g, c, cur, e, hg, hh, rest⟩
  · exact .inl h0
  · refine .inr ⟨g, c, cur, e, hg, (hk g ?_ hg (Array.getElem?_eq_some_iff.1 hh).1).trans hh, rest⟩
    injection e
theorem Grow.less {k : IntKind} {t : TypeId} {w : World} {base n cap : Nat} {a : Option Addr} {xs : List Int} {x : Int} (h : Grow k t w base a (n + 1) cap (xs ++ [x])) : Grow k t w base a n cap xs := by
  have hl := h.len
  rw [List.length_append, List.length_singleton] at hl
  rcases h.2 with ⟨_, h0⟩ | ⟨g, c, cur, e, hg, hh, hnc, hcm, hcs, htk⟩
  · omega
  · injection e with e1 e2 e3
    subst e1 e3
    refine ⟨by simp; omega, .inr ⟨g, cap, cur, rfl, hg, hh, by omega, hcm, hcs, ?_⟩⟩
    have := congrArg (List.take n) htk
    rw [List.take_take, Nat.mul_one, Nat.min_eq_left (Nat.le_succ n)] at this
    rw [Nat.mul_one, this, List.map_append, List.take_left' (by simp; omega)]
/-- The state of the search: below its struct, block q, the world is as it was. -/
structure SS (w W : World) (q : Nat) (cv : Value) (f : Nat → Nat) (ad : Option Addr) (cap : Nat) (L : List Nat) (ab : Option Addr) (cb : Nat) (st : Nat × List Nat) : Prop where
  row : SR W q cv f (.slice ad L.length cap) (.slice ab st.2.length cb) st.1
  sl : Grow .i64 3 W (q + 1) ad L.length cap (iL L)
  be : Grow .i64 3 W (q + 1) ab st.2.length cb (iL st.2)
  ne : ∀ g, ad = some ⟨g, 0, none⟩ → ab ≠ some ⟨g, 0, none⟩
  bl : Below q w W
section
variable {w W W' : World} {q : Nat} {cv : Value} {f g : Nat → Nat} {ad ab : Option Addr} {cap cb : Nat} {L : List Nat} {st : Nat × List Nat}
theorem SS.drewN (h : SS w W q cv f ad cap L ab cb st) (n : Nat) : SS w (W.drewN n) q cv f ad cap L ab cb st := ⟨h.row, h.sl, h.be, h.ne, below_drewN h.bl n⟩
theorem SS.size (h : SS w W q cv f ad cap L ab cb st) : q + 1 ≤ W.heap.size := h.row.lt
theorem SS.setT (h : SS w W q cv f ad cap L ab cb st) {c : Nat} (hc : c < 10) (d : Nat) (he : ∀ j, j < 10 → g j = if j = c then d else f j) : SS w (W.setCell ⟨q, 1 + c, none⟩ (.int .u16 (d : Int))) q cv g ad cap L ab cb st :=
  ⟨h.row.setT hc d he, h.sl.keep fun b hb _ => Below.heap_setCell _ _ _ _ (by show b ≠ q; omega), h.be.keep fun b hb _ => Below.heap_setCell _ _ _ _ (by show b ≠ q; omega), h.ne, h.bl.setCell (p := ⟨q, 1 + c, none⟩) (Nat.le_refl _) _⟩
set_option maxRecDepth 10000 in
theorem SS.app {x : Nat} {ad' : Option Addr} {cap' : Nat} (h : SS w W q cv f ad cap L ab cb st) (ha : App1 (q + 1) ad L.length (iL L) (x : Int) W ad' cap' W') : SS w (W'.setCell ⟨q, 11, none⟩ (.slice ad' (L.length + 1) cap')) q cv f ad' cap' (L ++ [x]) ab cb st := by
  obtain ⟨h1, h2, h3, h4⟩ := ha
  have hl : (L ++ [x]).length = L.length + 1 := by simp
  have hbe : Grow .i64 3 W' (q + 1) ab st.2.length cb (iL st.2) := h.be.keep1 fun g e hg hlt => h3 g hlt fun e2 => h.ne g e2 e
  refine ⟨?_, ?_, hbe.keep fun b hb _ => Below.heap_setCell _ _ _ _ (by show b ≠ q; omega), fun g e => ?_, (h.bl.trans (h2.mono (Nat.le_succ q))).setCell (p := ⟨q, 11, none⟩) (Nat.le_refl _) _⟩
  · rw [hl]
    exact (h.row.block (h2.block q (Nat.lt_succ_self q))).setS _
  · rw [hl, iL_app]
    exact h1.keep fun b hb _ => Below.heap_setCell _ _ _ _ (by show b ≠ q; omega)
  · rcases h4 with rfl | ⟨g', hg', rfl⟩
    · exact h.ne g e
    · injection e with e
      injection e with e
      subst e
      intro e2
      rcases h.be.2 with ⟨e3, _⟩ | ⟨g2, c2, cur, e3, _, hh, _⟩
      · injection e3 with e3; rw [e2] at e3; cases e3
      · injection e3 with e3
        rw [e2] at e3
        injection e3 with e3
        injection e3 with e3
        subst e3
        have := (Array.getElem?_eq_some_iff.1 hh).1
        omega
theorem SS.cut {x : Nat} (h : SS w W q cv f ad cap (L ++ [x]) ab cb st) : SS w (W.setCell ⟨q, 11, none⟩ (.slice ad L.length cap)) q cv f ad cap L ab cb st := by
  have h1 := h.sl
  rw [List.length_append, List.length_singleton, iL_app] at h1
  exact ⟨h.row.setS _, h1.less.keep fun b hb _ => Below.heap_setCell _ _ _ _ (by show b ≠ q; omega), h.be.keep fun b hb _ => Below.heap_setCell _ _ _ _ (by show b ≠ q; omega), h.ne, h.bl.setCell (p := ⟨q, 11, none⟩) (Nat.le_refl _) _⟩
theorem SS.next (h : SS w W q cv f ad cap L ab cb st) (hb : Below W.heap.size W W') : SS w W' q cv f ad cap L ab cb st :=
  ⟨h.row.block (hb.block q h.row.lt), h.sl.below hb, h.be.below hb, h.ne, h.bl.trans (hb.mono (Nat.le_of_lt h.row.lt))⟩
set_option maxRecDepth 10000 in
theorem SS.best {ab' : Option Addr} {cb' u : Nat} (h : SS w W q cv f ad cap L ab cb st) (hb : Below W.heap.size W W') (hn : Grow .i64 3 W' W.heap.size ab' L.length cb' (iL L)) : SS w ((W'.setCell ⟨q, 12, none⟩ (.slice ab' L.length cb')).setCell ⟨q, 13, none⟩ (.int .i64 (u : Int))) q cv f ad cap L ab' cb' (u, L) := by
  have h1 := h.next hb
  refine ⟨(h1.row.setB _).setN u, (h1.sl.keep fun b hb _ => Below.heap_setCell _ _ _ _ (by show b ≠ q; omega)).keep fun b hb _ => Below.heap_setCell _ _ _ _ (by show b ≠ q; omega), ((hn.base_le h.size).keep fun b hb _ => Below.heap_setCell _ _ _ _ (by show b ≠ q; omega)).keep fun b hb _ => Below.heap_setCell _ _ _ _ (by show b ≠ q; omega), fun g e e2 => ?_, (h1.bl.setCell (p := ⟨q, 12, none⟩) (Nat.le_refl _) _).setCell (p := ⟨q, 13, none⟩) (Nat.le_refl _) _⟩
  have k1 : W.heap.size ≤ g := by
    rcases hn.2 with ⟨e3, _⟩ | ⟨g2, c2, cur, e3, hg2, _⟩
    · injection e3 with e3; rw [e2] at e3; cases e3
    · injection e3 with e3
      rw [e2] at e3
      injection e3 with e3
      injection e3 with e3
      subst e3; exact hg2
  rcases h.sl.2 with ⟨e3, _⟩ | ⟨g2, c2, cur, e3, _, hh, _⟩
  · injection e3 with e3; rw [e] at e3; cases e3
  · injection e3 with e3
    rw [e] at e3
    injection e3 with e3
    injection e3 with e3
    subst e3
    have := (Array.getElem?_eq_some_iff.1 hh).1
    omega
end
set_option maxRecDepth 10000 in
/-- A copy of a list, or nothing of nothing. -/
theorem cloneS_any (a : Option Addr) (n c base : Nat) (xs : List Int) (w : World) (hg : Grow .i64 3 w base a n c xs) (hl : n ≤ 1048576) :
    Calls Tryd.prog 41 #[.slice a n c] w fun e w' => ∃ a' c', e = .returned (.slice a' n c') ∧ Grow .i64 3 w' w.heap.size a' n c' xs ∧ Below w.heap.size w w' := by
  by_cases ha : a = none
  · subst ha
    have hx : xs = [] ∧ n = 0 ∧ c = 0 := by
      have hl := hg.len
      rcases hg.2 with ⟨e, h0⟩ | ⟨g, c, cur, e, _⟩
      · injection e with _ _ e3
        subst h0
        exact ⟨List.eq_nil_of_length_eq_zero hl, rfl, e3⟩
      · injection e with e1; cases e1
    obtain ⟨rfl, rfl, rfl⟩ := hx
    have hn : ∀ W, (binOp .eql 25 (.slice none 0 0) (.slice none 0 0)).run Tryd.prog W = .ok (.bool true) W := fun W => Lib.run_eql_slice_nil W 25 3 none 0 0 0 0 Tryd.underlying25
    go_enter Tryd.func41, Tryd.ntmps41
    go_wp2
    go_ret
    exact ⟨none, 0, rfl, Grow.nil _ _ _ _, Below.refl _ _⟩
  · obtain ⟨g, rfl, _⟩ := hg.addr0 ha
    have hn : ∀ W, (binOp .eql 25 (.slice (some ⟨g, 0, none⟩) n c) (.slice none 0 0)).run Tryd.prog W = .ok (.bool false) W := fun W => Lib.run_eql_slice_nil W 25 3 (some ⟨g, 0, none⟩) n c 0 0 Tryd.underlying25
    have IA := Lib.hid (fun o => hg.ints.below (alloc_belowX w o))
    have BA := Lib.hid (fun o => alloc_belowX w o)
    have HL := Lib.hid hg.len
    clear hg
    go_enter Tryd.func41, Tryd.ntmps41
    go_wp2_with (at_builtin; refine wpList_appendA (.tmp 5) (.tmp 6) w.heap.size (some ⟨w.heap.size, 0, none⟩) (some ⟨g, 0, none⟩) 0 0 n c w.heap.size [] xs rfl rfl rfl rfl (Grow.lit0 _ _ _ _ (Nat.le_refl _)) (IA.out _) HL.out (by omega) (by simp) ?_; intro a4 cap4 w4 hg4 hb4 _; rw [Nat.zero_add, List.nil_append] at hg4; have HG4 := Lib.hid hg4; have HB4 := Lib.hid ((BA.out _).trans hb4); clear hg4 hb4)
    go_ret
    exact ⟨_, _, by simp, HG4.out, HB4.out⟩
end Go.Proofs.YtibgpgifdjefnaaDoor
