/-
  The queue of waiting senders in memory: a row of structs of four numbers, of which a variable holds a slice; what its methods answer. Conditions: the queue lies there; places within it.
-/
import Derived.Test.YtenihedpbklmlaaAcc1
import Derived.Test.YtenihedpbklmlaaOne
import Derived.BigRegion
import Derived.Lib.BufferOwn
namespace Go.Proofs.Ytenihedpbklmlaa
open Go.RowKit

/-- A waiting sender: its number, its next slot, its seed, its failures. -/
structure Wt where
  n : Nat
  s : Nat
  d : Nat
  f : Nat
def wt0 : Wt := ⟨0, 0, 0, 0⟩
def wtV (x : Wt) : Value := .agg #[.int .i64 x.n, .int .i64 x.s, .int .i64 x.d, .int .i64 x.f]
def qn (L : List Wt) (i : Nat) : Wt := L.getD i wt0
/-- Block b has room for cap senders and begins with those of L. -/
def wtAt (f : Nat → Value) (i : Nat) (x : Wt) : Prop := f (i * 4) = .int .i64 x.n ∧ f (i * 4 + 1) = .int .i64 x.s ∧ f (i * 4 + 2) = .int .i64 x.d ∧ f (i * 4 + 3) = .int .i64 x.f
def QR (W : World) (b cap : Nat) (L : List Wt) : Prop := L.length ≤ cap ∧ ∃ f, W.rowIs b 56 (cap * 4) f ∧ ∀ i, i < L.length → wtAt f i (qn L i)
/-- The variable v holds the queue, which lies in block b below it. -/
def QV (W : World) (v b cap : Nat) (L : List Wt) : Prop := b < v ∧ cap ≤ 8 ∧ W.rowIs v 52 1 (fun _ => .slice (some ⟨b, 0, none⟩) L.length cap) ∧ QR W b cap L
section
variable {W W' : World} {v b cap : Nat} {L : List Wt}
theorem QR.lt (h : QR W b cap L) : b < W.heap.size := by obtain ⟨_, f, h1, _⟩ := h; exact h1.lt
theorem QR.keep (h : QR W b cap L) (hk : W'.heap[b]? = W.heap[b]?) : QR W' b cap L := by
  obtain ⟨h0, f, h1, h2⟩ := h
  exact ⟨h0, f, h1.of_block hk, h2⟩
theorem QR.cells (h : QR W b cap L) {i : Nat} (hi : i < L.length) : W.cell? ⟨b, i * 4, none⟩ = some (.int .i64 (qn L i).n) ∧ W.cell? ⟨b, i * 4 + 1, none⟩ = some (.int .i64 (qn L i).s) ∧ W.cell? ⟨b, i * 4 + 2, none⟩ = some (.int .i64 (qn L i).d) ∧ W.cell? ⟨b, i * 4 + 3, none⟩ = some (.int .i64 (qn L i).f) := by
  obtain ⟨h0, f, h1, h2⟩ := h
  obtain ⟨a1, a2, a3, a4⟩ := h2 i hi
  refine ⟨?_, ?_, ?_, ?_⟩
  · rw [h1.cell (by omega), a1]
  · rw [h1.cell (by omega), a2]
  · rw [h1.cell (by omega), a3]
  · rw [h1.cell (by omega), a4]
theorem QR.frozen (h : QR W b cap L) (i : Nat) : W.frozen? ⟨b, i, none⟩ = false := by obtain ⟨_, f, h1, _⟩ := h; exact h1.frozen i
theorem QR.room (h : QR W b cap L) {i : Nat} (hi : i < cap * 4) : ∃ u, W.cell? ⟨b, i, none⟩ = some u := by obtain ⟨_, f, h1, _⟩ := h; exact ⟨_, h1.cell hi⟩
theorem qn_set {i j : Nat} {x : Wt} (_hi : i < L.length) (hj : j < L.length) : qn (L.set i x) j = if j = i then x else qn L j := by
  unfold qn
  by_cases e : j = i
  · subst e; simp [hj]
  · have e' : ¬ i = j := fun h => e h.symm
    simp [e, List.getElem?_set_ne e']
/-- Four cells written: sender i is another one. -/
def put4 (W : World) (b i : Nat) (x : Wt) : World :=
  (((W.setCell ⟨b, i * 4, none⟩ (.int .i64 x.n)).setCell ⟨b, i * 4 + 1, none⟩ (.int .i64 x.s)).setCell ⟨b, i * 4 + 2, none⟩ (.int .i64 x.d)).setCell ⟨b, i * 4 + 3, none⟩ (.int .i64 x.f)
def put4F (f : Nat → Value) (i : Nat) (x : Wt) (j : Nat) : Value := if j = i * 4 + 3 then .int .i64 x.f else if j = i * 4 + 2 then .int .i64 x.d else if j = i * 4 + 1 then .int .i64 x.s else if j = i * 4 then .int .i64 x.n else f j
theorem put4_row {n : Nat} {f : Nat → Value} {t : TypeId} (h : W.rowIs b t n f) (i : Nat) (x : Wt) : (put4 W b i x).rowIs b t n (put4F f i x) :=
  (((h.set (i * 4) (.int .i64 x.n)).set (i * 4 + 1) (.int .i64 x.s)).set (i * 4 + 2) (.int .i64 x.d)).set (i * 4 + 3) (.int .i64 x.f)
theorem put4_at {f : Nat → Value} (i j : Nat) (x y : Wt) (hy : j ≠ i → wtAt f j y) (hx : j = i → y = x) :
    wtAt (put4F f i x) j y := by
  by_cases e : j = i
  · obtain rfl := hx e
    subst e
    refine ⟨?_, ?_, ?_, ?_⟩ <;> simp [put4F]
  · obtain ⟨a1, a2, a3, a4⟩ := hy e
    have hk : ∀ k, k < 4 → put4F f i x (j * 4 + k) = f (j * 4 + k) := fun k hk => by
      unfold put4F
      rw [if_neg (by omega), if_neg (by omega), if_neg (by omega), if_neg (by omega)]
    exact ⟨(hk 0 (by omega)).trans a1, (hk 1 (by omega)).trans a2, (hk 2 (by omega)).trans a3, (hk 3 (by omega)).trans a4⟩
theorem QR.put (h : QR W b cap L) {i : Nat} (hi : i < L.length) (x : Wt) : QR (put4 W b i x) b cap (L.set i x) := by
  obtain ⟨h0, f, h1, h2⟩ := h
  refine ⟨by rw [List.length_set]; exact h0, _, put4_row h1 i x, fun j hj => ?_⟩
  rw [List.length_set] at hj
  rw [qn_set hi hj]
  exact put4_at i j x _ (fun e => by rw [if_neg e]; exact h2 j hj) (fun e => by rw [if_pos e])
theorem QR.snoc (h : QR W b cap L) (hl : L.length < cap) (x : Wt) : QR (put4 W b L.length x) b cap (L ++ [x]) := by
  obtain ⟨h0, f, h1, h2⟩ := h
  refine ⟨by rw [List.length_append]; exact hl, _, put4_row h1 L.length x, fun j hj => ?_⟩
  rw [List.length_append, List.length_singleton] at hj
  refine put4_at L.length j x _ (fun e => ?_) (fun e => ?_)
  · have : qn (L ++ [x]) j = qn L j := by unfold qn; rw [List.getD_eq_getElem?_getD, List.getD_eq_getElem?_getD, List.getElem?_append_left (show j < L.length by omega)]
    rw [this]; exact h2 j (by omega)
  · subst e; unfold qn; simp
theorem QR.less (h : QR W b cap L) {k : Nat} (_hk : k ≤ L.length) : QR W b cap (L.take k) := by
  obtain ⟨h0, f, h1, h2⟩ := h
  refine ⟨by rw [List.length_take]; omega, f, h1, fun j hj => ?_⟩
  rw [List.length_take] at hj
  have : qn (L.take k) j = qn L j := by unfold qn; simp [show j < k by omega]
  rw [this]; exact h2 j (by omega)
theorem put4_heap (W : World) (b i : Nat) (x : Wt) {j : Nat} (hj : j ≠ b) : (put4 W b i x).heap[j]? = W.heap[j]? := by
  unfold put4
  rw [Below.heap_setCell _ ⟨b, i * 4 + 3, none⟩ _ _ hj, Below.heap_setCell _ ⟨b, i * 4 + 2, none⟩ _ _ hj, Below.heap_setCell _ ⟨b, i * 4 + 1, none⟩ _ _ hj, Below.heap_setCell _ ⟨b, i * 4, none⟩ _ _ hj]
end
set_option maxRecDepth 10000 in
theorem qLen_any (W : World) (b n c : Nat) : Calls Try.prog 87 #[.slice (some ⟨b, 0, none⟩) n c] W fun e w' => e = .returned (.int .i64 (n : Int)) ∧ W = w' := by
  go_enter Try.func87, Try.ntmps87
  go_wp2
  go_ret
  exact ⟨rfl, rfl⟩
set_option maxRecDepth 10000 in
theorem qLess_any (W : World) (b cap : Nat) (L : List Wt) (i j : Nat) (r : Bool) (h : QR W b cap L) (hi : i < L.length) (hj : j < L.length) (hr : decide ((qn L i).s < (qn L j).s) = r) :
    Calls Try.prog 88 #[.slice (some ⟨b, 0, none⟩) L.length cap, .int .i64 (i : Int), .int .i64 (j : Int)] W fun e w' => e = .returned (.bool r) ∧ ∃ n, w' = W.drewN n := by
  obtain ⟨_, c1, _, _⟩ := h.cells hi
  obtain ⟨_, c2, _, _⟩ := h.cells hj
  obtain ⟨x, hx⟩ : ∃ x, x = (qn L i).s := ⟨_, rfl⟩
  obtain ⟨y, hy⟩ : ∃ y, y = (qn L j).s := ⟨_, rfl⟩
  rw [← hx] at c1 hr
  rw [← hy] at c2 hr
  clear hx hy
  have hi' : (i : Int) < (L.length : Int) := by omega
  have hj' : (j : Int) < (L.length : Int) := by omega
  cases r
  · have hxy : ¬ (x : Int) < (y : Int) := by have := of_decide_eq_false hr; omega
    clear h hr
    go_enter Try.func88, Try.ntmps88
    go_wp2
    go_quiet (fail)
    go_wp2
    go_ret
    exact ⟨ret_bool (by simp; omega), _, rfl⟩
  · have hxy : (x : Int) < (y : Int) := by have := of_decide_eq_true hr; omega
    clear h hr
    go_enter Try.func88, Try.ntmps88
    go_wp2
    go_quiet (fail)
    go_wp2
    go_ret
    exact ⟨ret_bool (by simp), _, rfl⟩
/-- Two senders exchanged. -/
def swp (L : List Wt) (i j : Nat) : List Wt := (L.set i (qn L j)).set j (qn L i)
theorem QR.swap {W : World} {b cap : Nat} {L : List Wt} (h : QR W b cap L) {i j : Nat} (hi : i < L.length) (hj : j < L.length) : QR (put4 (put4 W b i (qn L j)) b j (qn L i)) b cap (swp L i j) :=
  (h.put hi (qn L j)).put (by rw [List.length_set]; exact hj) (qn L i)
set_option maxRecDepth 10000 in
set_option maxHeartbeats 4000000 in
theorem qSwap_any (W : World) (b cap : Nat) (L : List Wt) (i j : Nat) (h : QR W b cap L) (hi : i < L.length) (hj : j < L.length) :
    Calls Try.prog 89 #[.slice (some ⟨b, 0, none⟩) L.length cap, .int .i64 (i : Int), .int .i64 (j : Int)] W fun e w' => e = .returned (.tuple #[]) ∧ ∃ n, w' = (put4 (put4 W b i (qn L j)) b j (qn L i)).drewN n := by
  obtain ⟨a1, a2, a3, a4⟩ := h.cells hi
  obtain ⟨c1, c2, c3, c4⟩ := h.cells hj
  have f1 := h.frozen (i * 4)
  have f2 := h.frozen (i * 4 + 1)
  have f3 := h.frozen (i * 4 + 2)
  have f4 := h.frozen (i * 4 + 3)
  have g1 := h.frozen (j * 4)
  have g2 := h.frozen (j * 4 + 1)
  have g3 := h.frozen (j * 4 + 2)
  have g4 := h.frozen (j * 4 + 3)
  have hi' : (i : Int) < (L.length : Int) := by omega
  have hj' : (j : Int) < (L.length : Int) := by omega
  clear h
  by_cases hij : i = j
  · subst hij
    go_enter Try.func89, Try.ntmps89
    go_wp2
    go_region
    go_end0
    exact ⟨rfl, 1, rfl⟩
  · skip
    have n00 : ¬ j * 4 = i * 4 := by omega
    have m00 : ¬ i * 4 = j * 4 := by omega
    have n01 : ¬ j * 4 = i * 4 + 1 := by omega
    have m01 : ¬ i * 4 = j * 4 + 1 := by omega
    have n02 : ¬ j * 4 = i * 4 + 2 := by omega
    have m02 : ¬ i * 4 = j * 4 + 2 := by omega
    have n03 : ¬ j * 4 = i * 4 + 3 := by omega
    have m03 : ¬ i * 4 = j * 4 + 3 := by omega
    have n10 : ¬ j * 4 + 1 = i * 4 := by omega
    have m10 : ¬ i * 4 + 1 = j * 4 := by omega
    have n11 : ¬ j * 4 + 1 = i * 4 + 1 := by omega
    have m11 : ¬ i * 4 + 1 = j * 4 + 1 := by omega
    have n12 : ¬ j * 4 + 1 = i * 4 + 2 := by omega
    have m12 : ¬ i * 4 + 1 = j * 4 + 2 := by omega
    have n13 : ¬ j * 4 + 1 = i * 4 + 3 := by omega
    have m13 : ¬ i * 4 + 1 = j * 4 + 3 := by omega
    have n20 : ¬ j * 4 + 2 = i * 4 := by omega
    have m20 : ¬ i * 4 + 2 = j * 4 := by omega
    have n21 : ¬ j * 4 + 2 = i * 4 + 1 := by omega
    have m21 : ¬ i * 4 + 2 = j * 4 + 1 := by omega
    have n22 : ¬ j * 4 + 2 = i * 4 + 2 := by omega
    have m22 : ¬ i * 4 + 2 = j * 4 + 2 := by omega
    have n23 : ¬ j * 4 + 2 = i * 4 + 3 := by omega
    have m23 : ¬ i * 4 + 2 = j * 4 + 3 := by omega
    have n30 : ¬ j * 4 + 3 = i * 4 := by omega
    have m30 : ¬ i * 4 + 3 = j * 4 := by omega
    have n31 : ¬ j * 4 + 3 = i * 4 + 1 := by omega
    have m31 : ¬ i * 4 + 3 = j * 4 + 1 := by omega
    have n32 : ¬ j * 4 + 3 = i * 4 + 2 := by omega
    have m32 : ¬ i * 4 + 3 = j * 4 + 2 := by omega
    have n33 : ¬ j * 4 + 3 = i * 4 + 3 := by omega
    have m33 : ¬ i * 4 + 3 = j * 4 + 3 := by omega
    go_enter Try.func89, Try.ntmps89
    go_wp2
    go_region
    go_end0
    exact ⟨rfl, 1, rfl⟩
section
variable {B C : Nat} {w w1 w2 : World}
theorem KeptOut.andThen (h : KeptOut B C w w1) (g : KeptOut B C w1 w2) : KeptOut B C w w2 :=
  ⟨g.os.trans h.os, g.tape.trans h.tape, g.output.trans h.output, Nat.le_trans h.size g.size, fun j hj hd => (g.block j (Nat.lt_of_lt_of_le hj h.size) hd).trans (h.block j hj hd)⟩
theorem KeptOut.toAlloc (h : KeptOut B C w w1) (o : Obj) : KeptOut B C w (w1.alloc o) := h.andThen (KeptOut.of_below (alloc_belowX w1 o))
theorem KeptOut.toSet (h : KeptOut B C w w1) {b : Nat} (hb : B ≤ b) (hc : b < C) (i : Nat) (x : Value) : KeptOut B C w (w1.setCell ⟨b, i, none⟩ x) := h.andThen (KeptOut.of_grown (Lib.grownBy_setCell w1 b i x) hb hc)
theorem KeptOut.toDrew (h : KeptOut B C w w1) (n : Nat) : KeptOut B C w (w1.drewN n) := ⟨h.os, h.tape, h.output, h.size, h.block⟩
theorem KeptOut.toPut4 (h : KeptOut B C w w1) {b : Nat} (hb : B ≤ b) (hc : b < C) (i : Nat) (x : Wt) : KeptOut B C w (put4 w1 b i x) :=
  (((h.toSet hb hc _ _).toSet hb hc _ _).toSet hb hc _ _).toSet hb hc _ _
end
section
variable {W W' : World} {v b cap : Nat} {L : List Wt}
theorem QV.keep (h : QV W v b cap L) {D E : Nat} (hk : KeptOut D E W W') (hd : E ≤ b ∨ v < D) : QV W' v b cap L := by
  obtain ⟨h1, h2, h3, h4⟩ := h
  exact ⟨h1, h2, h3.of_block (hk.block v h3.lt (by omega)), h4.keep (hk.block b h4.lt (by omega))⟩
theorem QV.drewN (h : QV W v b cap L) (n : Nat) : QV (W.drewN n) v b cap L := h
theorem QV.next (h : QV W v b cap L) (hb : Below W.heap.size W W') : QV W' v b cap L := by
  obtain ⟨h1, h2, h3, h4⟩ := h
  exact ⟨h1, h2, h3.of_block (hb.block v h3.lt), h4.keep (hb.block b h4.lt)⟩
theorem QV.cell (h : QV W v b cap L) : W.cell? ⟨v, 0, none⟩ = some (.slice (some ⟨b, 0, none⟩) L.length cap) := h.2.2.1.cell (i := 0) (by omega)
theorem QV.frozen (h : QV W v b cap L) : W.frozen? ⟨v, 0, none⟩ = false := h.2.2.1.frozen 0
theorem QV.lt (h : QV W v b cap L) : b < v ∧ v < W.heap.size := ⟨h.1, h.2.2.1.lt⟩
set_option maxRecDepth 10000 in
theorem QV.set (hbv : b < v) (h8 : cap ≤ 8) {x : Value} (hv : W.rowIs v 52 1 (fun _ => x)) (hr : QR W b cap L) {n : Nat} (hn : n = L.length) : QV (W.setCell ⟨v, 0, none⟩ (.slice (some ⟨b, 0, none⟩) n cap)) v b cap L := by
  subst hn
  exact ⟨hbv, h8, (hv.set 0 (.slice (some ⟨b, 0, none⟩) L.length cap)).congr fun j hj => by rw [if_pos (by omega)], hr.keep (Below.heap_setCell W ⟨v, 0, none⟩ _ _ (by show b ≠ v; omega))⟩
theorem QV.swap (h : QV W v b cap L) {i j : Nat} (hi : i < L.length) (hj : j < L.length) : QV (put4 (put4 W b i (qn L j)) b j (qn L i)) v b cap (swp L i j) := by
  obtain ⟨h1, h2, h3, h4⟩ := h
  refine ⟨h1, h2, ?_, h4.swap hi hj⟩
  rw [show (swp L i j).length = L.length by simp [swp]]
  exact h3.of_block (by rw [put4_heap _ _ _ _ (by omega), put4_heap _ _ _ _ (by omega)])
end
/-- What Pop and Push of the queue itself leave. -/
def QPost (W : World) (v b cap : Nat) (L : List Wt) (r : Value) (e : Ending) (w' : World) : Prop := e = .returned r ∧ QV w' v b cap L ∧ KeptOut b (v + 1) W w'
set_option maxRecDepth 10000 in
theorem qPop_any (W : World) (v b cap : Nat) (L : List Wt) (h : QV W v b cap L) (n : Nat) (hn : L.length = n + 1) :
    Calls Try.prog 90 #[.pointer (some ⟨v, 0, none⟩)] W (QPost W v b cap (L.take n) (.iface 56 (wtV (qn L n)))) := by
  obtain ⟨hbv, h8, hv, hr⟩ := h
  have cv := hv.cell (i := 0) (by omega)
  have fv := hv.frozen 0
  have hvl := hv.lt
  have hbl := hr.lt
  obtain ⟨a1, a2, a3, a4⟩ := hr.cells (i := n) (by omega)
  rw [hn] at cv
  have hn' : ((n + 1 : Nat) : Int) - 1 = (n : Int) := by omega
  have r1 := wrapW (n := (n : Int)) (by have := hr.1; omega)
  have r1' := wrapW' (n := (n : Int)) (by have := hr.1; omega)
  have hcap : n + 1 ≤ cap := by have := hr.1; omega
  have hlt : (n : Int) < ((n + 1 : Nat) : Int) := by omega
  have HQ := Lib.hid ((QV.set hbv h8 hv (hr.less (k := n) (by omega)) (n := n) (by rw [List.length_take]; omega)).next (alloc_belowX _ (.cells #[.int .i64 (qn L n).n, .int .i64 (qn L n).s, .int .i64 (qn L n).d, .int .i64 (qn L n).f] 56)))
  have HK := Lib.hid (((KeptOut.refl b (v + 1) W).toSet (b := v) (by omega) (by omega) 0 (.slice (some ⟨b, 0, none⟩) n cap)).toAlloc (.cells #[.int .i64 (qn L n).n, .int .i64 (qn L n).s, .int .i64 (qn L n).d, .int .i64 (qn L n).f] 56))
  clear hv hr
  go_enter Try.func90, Try.ntmps90
  go_wp2
  go_ret
  exact ⟨rfl, HQ.out, HK.out⟩
set_option maxRecDepth 10000 in
theorem run_assertWt (u : Value) (w : World) : (Instr.typeAssert (.iface 56 u) 20 56 false).run Try.prog w = .ok u w := by kernel_rfl
set_option maxRecDepth 10000 in
set_option maxHeartbeats 2000000 in
theorem qPush_any (W : World) (v b cap : Nat) (L : List Wt) (y : Wt) (h : QV W v b cap L) (hl : L.length < cap) :
    Calls Try.prog 91 #[.pointer (some ⟨v, 0, none⟩), .iface 56 (wtV y)] W (QPost W v b cap (L ++ [y]) (.tuple #[])) := by
  obtain ⟨hbv, h8, hv, hr⟩ := h
  have cv := hv.cell (i := 0) (by omega)
  have hvl := hv.lt
  have hbl := hr.lt
  obtain ⟨u0, d0⟩ := hr.room (i := L.length * 4) (by omega)
  obtain ⟨u1, d1⟩ := hr.room (i := L.length * 4 + 1) (by omega)
  obtain ⟨u2, d2⟩ := hr.room (i := L.length * 4 + 2) (by omega)
  obtain ⟨u3, d3⟩ := hr.room (i := L.length * 4 + 3) (by omega)
  have f0 := hr.frozen (L.length * 4)
  have f1 := hr.frozen (L.length * 4 + 1)
  have f2 := hr.frozen (L.length * 4 + 2)
  have f3 := hr.frozen (L.length * 4 + 3)
  have fv := hv.frozen 0
  have hv2 : (put4 W b L.length y).rowIs v 52 1 (fun _ => .slice (some ⟨b, 0, none⟩) L.length cap) := hv.of_block (put4_heap W b L.length y (by omega))
  have HQ := Lib.hid ((QV.set hbv h8 hv2 (hr.snoc hl y) (n := L.length + 1) (by simp)).next (alloc_belowX _ (.cells #[.int .i64 y.n, .int .i64 y.s, .int .i64 y.d, .int .i64 y.f] 56)))
  have HK := Lib.hid ((((KeptOut.refl b (v + 1) W).toPut4 (b := b) (Nat.le_refl _) (by omega) L.length y).toSet (b := v) (by omega) (by omega) 0 (.slice (some ⟨b, 0, none⟩) (L.length + 1) cap)).toAlloc (.cells #[.int .i64 y.n, .int .i64 y.s, .int .i64 y.d, .int .i64 y.f] 56))
  have hroom : L.length + 1 ≤ cap := hl
  have hne : ¬ v = b := by omega
  have hne' : ¬ b = v := by omega
  clear hv hr hv2
  unfold wtV
  have hta : ∀ (u : Value) (w : World), (Instr.typeAssert (.iface 56 u) 20 56 false).run Try.prog w = .ok u w := run_assertWt
  go_enter Try.func91, Try.ntmps91
  go_wp2
  go_region
  go_end0
  exact ⟨rfl, HQ.out.drewN 1, HK.out.toDrew 1⟩
end Go.Proofs.Ytenihedpbklmlaa
