/-
  The queue of paths in memory, and the heap of the library over it: what its methods, up, down, Push and Pop leave. Conditions: the queue lies there and is a heap, with fewer than 1000 paths; not empty.
-/
import Derived.Test.YtnmhiagnmfpipaaRteMath
import Derived.Test.YtnmhiagnmfpipaaSigMem
import Derived.Test.YtnmhiagnmfpipaaMem1
import Derived.Test.YtnmhiagnmfpipaaOne
import Derived.BigRegion
import Derived.Lib.BufferOwn
import Derived.Lib.AppendZeros
namespace Go.Proofs.Ytnmhiagnmfpipaa
open Go.RowKit

/-- A path: the station where it begins, its cost. -/
def ptV (x : Smp) : Value := .agg #[.int .i64 x.1, .int .i64 x.2]
def pn (L : List Smp) (i : Nat) : Smp := L.getD i (0, 0)
def ptAt (f : Nat → Value) (i : Nat) (x : Smp) : Prop := f (i * 2) = .int .i64 x.1 ∧ f (i * 2 + 1) = .int .i64 x.2
/-- Block b has room for cap paths and begins with those of L. -/
def PR (W : World) (b cap : Nat) (L : List Smp) : Prop := L.length ≤ cap ∧ cap ≤ maxLen ∧ ∃ f, W.rowIs b 82 (cap * 2) f ∧ ∀ i, i < L.length → ptAt f i (pn L i)
/-- The variable v holds the queue, which lies in block b; both are the call's own, from block D on. -/
def PV (W : World) (D v b cap : Nat) (L : List Smp) : Prop := (D ≤ b ∧ D ≤ v ∧ b ≠ v ∧ L.length ≤ 1000) ∧ W.rowIs v 84 1 (fun _ => .slice (some ⟨b, 0, none⟩) L.length cap) ∧ PR W b cap L
section
variable {W W' : World} {D v b cap : Nat} {L : List Smp}
theorem PR.lt (h : PR W b cap L) : b < W.heap.size := by obtain ⟨_, _, f, h1, _⟩ := h; exact h1.lt
theorem PR.keep (h : PR W b cap L) (hk : W'.heap[b]? = W.heap[b]?) : PR W' b cap L := by
  obtain ⟨h0, h9, f, h1, h2⟩ := h
  exact ⟨h0, h9, f, h1.of_block hk, h2⟩
theorem PR.cells (h : PR W b cap L) {i : Nat} (hi : i < L.length) : W.cell? ⟨b, i * 2, none⟩ = some (.int .i64 (pn L i).1) ∧ W.cell? ⟨b, i * 2 + 1, none⟩ = some (.int .i64 (pn L i).2) := by
  obtain ⟨h0, h9, f, h1, h2⟩ := h
  obtain ⟨a1, a2⟩ := h2 i hi
  refine ⟨?_, ?_⟩
  · rw [h1.cell (by omega), a1]
  · rw [h1.cell (by omega), a2]
theorem PR.frozen (h : PR W b cap L) (i : Nat) : W.frozen? ⟨b, i, none⟩ = false := by obtain ⟨_, _, f, h1, _⟩ := h; exact h1.frozen i
theorem pn_set {i j : Nat} {x : Smp} (_hi : i < L.length) (hj : j < L.length) : pn (L.set i x) j = if j = i then x else pn L j := by
  unfold pn
  by_cases e : j = i
  · subst e; simp [hj]
  · have e' : ¬ i = j := fun h => e h.symm
    simp [e, List.getElem?_set_ne e']
/-- Two cells written: path i is another one. -/
def put2 (W : World) (b i : Nat) (x : Smp) : World :=
  (W.setCell ⟨b, i * 2, none⟩ (.int .i64 x.1)).setCell ⟨b, i * 2 + 1, none⟩ (.int .i64 x.2)
def put2F (f : Nat → Value) (i : Nat) (x : Smp) (j : Nat) : Value := if j = i * 2 + 1 then .int .i64 x.2 else if j = i * 2 then .int .i64 x.1 else f j
theorem put2_row {n : Nat} {f : Nat → Value} {t : TypeId} (h : W.rowIs b t n f) (i : Nat) (x : Smp) : (put2 W b i x).rowIs b t n (put2F f i x) :=
  (h.set (i * 2) (.int .i64 x.1)).set (i * 2 + 1) (.int .i64 x.2)
theorem put2_at {f : Nat → Value} (i j : Nat) (x y : Smp) (hy : j ≠ i → ptAt f j y) (hx : j = i → y = x) :
    ptAt (put2F f i x) j y := by
  by_cases e : j = i
  · obtain rfl := hx e
    subst e
    refine ⟨?_, ?_⟩ <;> simp [put2F]
  · obtain ⟨a1, a2⟩ := hy e
    have hk : ∀ k, k < 2 → put2F f i x (j * 2 + k) = f (j * 2 + k) := fun k hk => by
      unfold put2F
      rw [if_neg (by omega), if_neg (by omega)]
    exact ⟨(hk 0 (by omega)).trans a1, (hk 1 (by omega)).trans a2⟩
theorem PR.put (h : PR W b cap L) {i : Nat} (hi : i < L.length) (x : Smp) : PR (put2 W b i x) b cap (L.set i x) := by
  obtain ⟨h0, h9, f, h1, h2⟩ := h
  refine ⟨by rw [List.length_set]; exact h0, h9, _, put2_row h1 i x, fun j hj => ?_⟩
  rw [List.length_set] at hj
  rw [pn_set hi hj]
  exact put2_at i j x _ (fun e => by rw [if_neg e]; exact h2 j hj) (fun e => by rw [if_pos e])
theorem PR.less (h : PR W b cap L) {k : Nat} (_hk : k ≤ L.length) : PR W b cap (L.take k) := by
  obtain ⟨h0, h9, f, h1, h2⟩ := h
  refine ⟨by rw [List.length_take]; omega, h9, f, h1, fun j hj => ?_⟩
  rw [List.length_take] at hj
  have : pn (L.take k) j = pn L j := by unfold pn; simp [show j < k by omega]
  rw [this]; exact h2 j (by omega)
theorem put2_heap (W : World) (b i : Nat) (x : Smp) {j : Nat} (hj : j ≠ b) : (put2 W b i x).heap[j]? = W.heap[j]? := by
  unfold put2
  rw [Below.heap_setCell _ ⟨b, i * 2 + 1, none⟩ _ _ hj, Below.heap_setCell _ ⟨b, i * 2, none⟩ _ _ hj]
set_option maxRecDepth 10000 in
/-- As a list that may be appended to, and back. -/
theorem PR.grow (h : PR W b cap L) (hD : D ≤ b) : GrowS 82 W D (some ⟨b, 0, none⟩) L.length cap L := by
  obtain ⟨h0, h9, f, ⟨cur, hh, hs, hf⟩, h2⟩ := h
  refine ⟨smpCells_length L, .inr ⟨b, cap, cur, rfl, hD, hh, h0, h9, hs, ?_⟩⟩
  refine List.ext_getElem? fun i => ?_
  rw [List.getElem?_take]
  by_cases hi : i < L.length * 2
  · rw [if_pos hi]
    have hc : i < cur.size := by omega
    obtain ⟨k1, k2⟩ := smpCells_at L (i / 2) (by omega)
    obtain ⟨a1, a2⟩ := h2 (i / 2) (by omega)
    have e1 := hf (i / 2 * 2) (by omega)
    have e2 := hf (i / 2 * 2 + 1) (by omega)
    rw [a1] at e1
    rw [a2] at e2
    rcases Nat.mod_two_eq_zero_or_one i with hm | hm
    · have ei : i = i / 2 * 2 := by omega
      rw [ei, k1]
      show _ = some (Value.int .i64 (pn L (i / 2)).1)
      simpa using e1
    · have ei : i = i / 2 * 2 + 1 := by omega
      rw [ei, k2]
      show _ = some (Value.int .i64 (pn L (i / 2)).2)
      simpa using e2
  · rw [if_neg hi, List.getElem?_eq_none (by rw [smpCells_length]; omega)]
set_option maxRecDepth 10000 in
theorem pr_grow {a : Option Addr} {n : Nat} (h : GrowS 82 W D a n cap L) (hp : 0 < n) : ∃ b, a = some ⟨b, 0, none⟩ ∧ D ≤ b ∧ n = L.length ∧ PR W b cap L := by
  obtain ⟨b, f, e, h1, h2, h3, h4, h5⟩ := h.row hp
  have hl := h.len
  exact ⟨b, e, h1, hl.symm, by omega, h.room.2, f, h4, fun i hi => h5 i (by omega)⟩
end
set_option maxRecDepth 10000 in
theorem pLen_any (W : World) (b n c : Nat) : Calls Try.prog 99 #[.slice (some ⟨b, 0, none⟩) n c] W fun e w' => e = .returned (.int .i64 (n : Int)) ∧ W = w' := by
  go_enter Try.func99, Try.ntmps99
  go_wp2
  go_ret
  exact ⟨rfl, rfl⟩
set_option maxRecDepth 10000 in
theorem pLess_any (W : World) (b cap : Nat) (L : List Smp) (i j : Nat) (r : Bool) (h : PR W b cap L) (hi : i < L.length) (hj : j < L.length) (hr : decide ((pn L i).2 < (pn L j).2) = r) :
    Calls Try.prog 100 #[.slice (some ⟨b, 0, none⟩) L.length cap, .int .i64 (i : Int), .int .i64 (j : Int)] W fun e w' => e = .returned (.bool r) ∧ ∃ n, w' = W.drewN n := by
  obtain ⟨_, c1⟩ := h.cells hi
  obtain ⟨_, c2⟩ := h.cells hj
  obtain ⟨x, hx⟩ : ∃ x, x = (pn L i).2 := ⟨_, rfl⟩
  obtain ⟨y, hy⟩ : ∃ y, y = (pn L j).2 := ⟨_, rfl⟩
  rw [← hx] at c1 hr
  rw [← hy] at c2 hr
  clear hx hy
  have hi' : (i : Int) < (L.length : Int) := by omega
  have hj' : (j : Int) < (L.length : Int) := by omega
  cases r
  · have hxy : ¬ x < y := of_decide_eq_false hr
    clear h hr
    go_enter Try.func100, Try.ntmps100
    go_wp2
    go_quiet (fail)
    go_wp2
    go_ret
    exact ⟨ret_bool (by simp; omega), _, rfl⟩
  · have hxy : x < y := of_decide_eq_true hr
    clear h hr
    go_enter Try.func100, Try.ntmps100
    go_wp2
    go_quiet (fail)
    go_wp2
    go_ret
    exact ⟨ret_bool (by simp), _, rfl⟩
/-- Two paths exchanged. -/
def pwp (L : List Smp) (i j : Nat) : List Smp := (L.set i (pn L j)).set j (pn L i)
theorem PR.swap {W : World} {b cap : Nat} {L : List Smp} (h : PR W b cap L) {i j : Nat} (hi : i < L.length) (hj : j < L.length) : PR (put2 (put2 W b i (pn L j)) b j (pn L i)) b cap (pwp L i j) :=
  (h.put hi (pn L j)).put (by rw [List.length_set]; exact hj) (pn L i)
set_option maxRecDepth 10000 in
set_option maxHeartbeats 4000000 in
theorem pSwap_any (W : World) (b cap : Nat) (L : List Smp) (i j : Nat) (h : PR W b cap L) (hi : i < L.length) (hj : j < L.length) :
    Calls Try.prog 101 #[.slice (some ⟨b, 0, none⟩) L.length cap, .int .i64 (i : Int), .int .i64 (j : Int)] W fun e w' => e = .returned (.tuple #[]) ∧ ∃ n, w' = (put2 (put2 W b i (pn L j)) b j (pn L i)).drewN n := by
  obtain ⟨a1, a2⟩ := h.cells hi
  obtain ⟨c1, c2⟩ := h.cells hj
  have f1 := h.frozen (i * 2)
  have f2 := h.frozen (i * 2 + 1)
  have g1 := h.frozen (j * 2)
  have g2 := h.frozen (j * 2 + 1)
  have hi' : (i : Int) < (L.length : Int) := by omega
  have hj' : (j : Int) < (L.length : Int) := by omega
  clear h
  by_cases hij : i = j
  · subst hij
    go_enter Try.func101, Try.ntmps101
    go_wp2
    go_region
    go_end0
    exact ⟨rfl, 1, rfl⟩
  · skip
    have n00 : ¬ j * 2 = i * 2 := by omega
    have m00 : ¬ i * 2 = j * 2 := by omega
    have n01 : ¬ j * 2 = i * 2 + 1 := by omega
    have m01 : ¬ i * 2 = j * 2 + 1 := by omega
    have n10 : ¬ j * 2 + 1 = i * 2 := by omega
    have m10 : ¬ i * 2 + 1 = j * 2 := by omega
    have n11 : ¬ j * 2 + 1 = i * 2 + 1 := by omega
    have m11 : ¬ i * 2 + 1 = j * 2 + 1 := by omega
    go_enter Try.func101, Try.ntmps101
    go_wp2
    go_region
    go_end0
    exact ⟨rfl, 1, rfl⟩
/-- All old blocks but b and v are as they were. -/
structure KeptQ (b v : Nat) (w w' : World) : Prop where
  os : w'.os = w.os
  tape : w'.tape = w.tape
  output : w'.output = w.output
  size : w.heap.size ≤ w'.heap.size
  block : ∀ j, j < w.heap.size → j ≠ b → j ≠ v → w'.heap[j]? = w.heap[j]?
section
variable {b b' v D : Nat} {w w1 w2 : World}
theorem KeptQ.refl (b v : Nat) (w : World) : KeptQ b v w w := ⟨rfl, rfl, rfl, Nat.le_refl _, fun _ _ _ _ => rfl⟩
theorem KeptQ.step (h : KeptQ b v w w1) (g : KeptQ b' v w1 w2) (hb : b' = b ∨ w.heap.size ≤ b') : KeptQ b v w w2 :=
  ⟨g.os.trans h.os, g.tape.trans h.tape, g.output.trans h.output, Nat.le_trans h.size g.size, fun j hj h1 h2 => (g.block j (Nat.lt_of_lt_of_le hj h.size) (by omega) h2).trans (h.block j hj h1 h2)⟩
theorem KeptQ.trans (h : KeptQ b v w w1) (g : KeptQ b v w1 w2) : KeptQ b v w w2 := h.step g (.inl rfl)
theorem KeptQ.below (h : KeptQ b v w w1) (hb : D ≤ b) (hv : D ≤ v) (hD : D ≤ w.heap.size) : Below D w w1 := ⟨h.os, h.tape, h.output, h.size, fun j hj => h.block j (by omega) (by omega) (by omega)⟩
theorem KeptQ.of_below (h : Below w.heap.size w w1) : KeptQ b v w w1 := ⟨h.os, h.tape, h.output, h.size, fun j hj _ _ => h.block j hj⟩
theorem KeptQ.drewN (h : KeptQ b v w w1) (n : Nat) : KeptQ b v w (w1.drewN n) := ⟨h.os, h.tape, h.output, h.size, h.block⟩
theorem KeptQ.setB (h : KeptQ b v w w1) (i : Nat) (x : Value) : KeptQ b v w (w1.setCell ⟨b, i, none⟩ x) :=
  h.trans ⟨rfl, rfl, rfl, by simp, fun j _ h1 _ => Below.heap_setCell w1 ⟨b, i, none⟩ x j h1⟩
theorem KeptQ.setV (h : KeptQ b v w w1) (i : Nat) (x : Value) : KeptQ b v w (w1.setCell ⟨v, i, none⟩ x) :=
  h.trans ⟨rfl, rfl, rfl, by simp, fun j _ _ h2 => Below.heap_setCell w1 ⟨v, i, none⟩ x j h2⟩
theorem KeptQ.put2 (h : KeptQ b v w w1) (i : Nat) (x : Smp) : KeptQ b v w (put2 w1 b i x) := (h.setB _ _).setB _ _
end
section
variable {W W' : World} {D v b cap : Nat} {L : List Smp}
theorem PV.drewN (h : PV W D v b cap L) (n : Nat) : PV (W.drewN n) D v b cap L := h
theorem PV.next (h : PV W D v b cap L) (hb : Below W.heap.size W W') : PV W' D v b cap L := by
  obtain ⟨h1, h3, h4⟩ := h
  exact ⟨h1, h3.of_block (hb.block v h3.lt), h4.keep (hb.block b h4.lt)⟩
/-- A cell of another block below written. -/
theorem PV.set_out (h : PV W D v b cap L) {s : Nat} (hs : s < D) (i : Nat) (x : Value) : PV (W.setCell ⟨s, i, none⟩ x) D v b cap L := by
  obtain ⟨h1, h3, h4⟩ := h
  exact ⟨h1, h3.of_block (Below.heap_setCell W ⟨s, i, none⟩ _ _ (by show v ≠ s; omega)), h4.keep (Below.heap_setCell W ⟨s, i, none⟩ _ _ (by show b ≠ s; omega))⟩
theorem PV.cell (h : PV W D v b cap L) : W.cell? ⟨v, 0, none⟩ = some (.slice (some ⟨b, 0, none⟩) L.length cap) := h.2.1.cell (i := 0) (by omega)
theorem PV.frozen (h : PV W D v b cap L) : W.frozen? ⟨v, 0, none⟩ = false := h.2.1.frozen 0
theorem PV.len (h : PV W D v b cap L) : L.length ≤ 1000 := h.1.2.2.2
set_option maxRecDepth 10000 in
theorem PV.set (hd : D ≤ b ∧ D ≤ v ∧ b ≠ v ∧ L.length ≤ 1000) {x : Value} (hv : W.rowIs v 84 1 (fun _ => x)) (hr : PR W b cap L) {n : Nat} (hn : n = L.length) : PV (W.setCell ⟨v, 0, none⟩ (.slice (some ⟨b, 0, none⟩) n cap)) D v b cap L := by
  subst hn
  exact ⟨hd, (hv.set 0 (.slice (some ⟨b, 0, none⟩) L.length cap)).congr fun j hj => by rw [if_pos (by omega)], hr.keep (Below.heap_setCell W ⟨v, 0, none⟩ _ _ hd.2.2.1)⟩
theorem PV.swap (h : PV W D v b cap L) {i j : Nat} (hi : i < L.length) (hj : j < L.length) : PV (put2 (put2 W b i (pn L j)) b j (pn L i)) D v b cap (pwp L i j) := by
  obtain ⟨h1, h3, h4⟩ := h
  have hl : (pwp L i j).length = L.length := by simp [pwp]
  refine ⟨by rw [hl]; exact h1, ?_, h4.swap hi hj⟩
  rw [hl]
  exact h3.of_block (by rw [put2_heap _ _ _ _ (Ne.symm h1.2.2.1), put2_heap _ _ _ _ (Ne.symm h1.2.2.1)])
end
/-- What a method of the queue leaves. -/
def PQPost (W : World) (D v b cap : Nat) (L : List Smp) (r : Value) (e : Ending) (w' : World) : Prop := e = .returned r ∧ PV w' D v b cap L ∧ KeptQ b v W w'
set_option maxRecDepth 10000 in
theorem pPop_any (W : World) (D v b cap : Nat) (L : List Smp) (h : PV W D v b cap L) (n : Nat) (hn : L.length = n + 1) :
    Calls Try.prog 102 #[.pointer (some ⟨v, 0, none⟩)] W (PQPost W D v b cap (L.take n) (.iface 82 (ptV (pn L n)))) := by
  obtain ⟨hd, hv, hr⟩ := h
  have cv := hv.cell (i := 0) (by omega)
  have fv := hv.frozen 0
  have hvl := hv.lt
  have hbl := hr.lt
  obtain ⟨a1, a2⟩ := hr.cells (i := n) (by omega)
  rw [hn] at cv
  have hn' : ((n + 1 : Nat) : Int) - 1 = (n : Int) := by omega
  have hn9 : n ≤ 1000 := by omega
  have r1 := wrapW (n := (n : Int)) (by omega)
  have r1' := wrapW' (n := (n : Int)) (by omega)
  have hcap : n + 1 ≤ cap := by have := hr.1; omega
  have hlt : (n : Int) < ((n + 1 : Nat) : Int) := by omega
  have HQ := Lib.hid ((PV.set (L := L.take n) ⟨hd.1, hd.2.1, hd.2.2.1, by rw [List.length_take]; omega⟩ hv (hr.less (k := n) (by omega)) (n := n) (by rw [List.length_take]; omega)).next (alloc_belowX _ (.cells #[.int .i64 (pn L n).1, .int .i64 (pn L n).2] 82)))
  have HK := Lib.hid (((KeptQ.refl b v W).setV 0 (.slice (some ⟨b, 0, none⟩) n cap)).trans (KeptQ.of_below (alloc_belowX _ (.cells #[.int .i64 (pn L n).1, .int .i64 (pn L n).2] 82))))
  clear hv hr hd
  go_enter Try.func102, Try.ntmps102
  go_wp2
  go_ret
  exact ⟨rfl, HQ.out, HK.out⟩
set_option maxRecDepth 10000 in
theorem run_assertPt (u : Value) (w : World) : (Instr.typeAssert (.iface 82 u) 20 82 false).run Try.prog w = .ok u w := by kernel_rfl

set_option maxRecDepth 10000 in
theorem Try.infoFp : (Try.prog.info? 82).map (fun i => (i.zero, i.size, i.bytes)) = some (some (.agg #[.int .i64 0, .int .i64 0]), 2, 16) := by kernel_rfl
set_option maxRecDepth 10000 in
theorem infoFp_parts : ∃ i, Try.prog.info? 82 = some i ∧ i.zero = some (.agg #[.int .i64 0, .int .i64 0]) ∧ i.size = 2 ∧ i.bytes = 16 := by
  obtain ⟨i, hi, hz⟩ := Option.map_eq_some_iff.1 Try.infoFp
  simp only [Prod.mk.injEq] at hz
  exact ⟨i, hi, hz.1, hz.2.1, hz.2.2⟩
theorem smpCells_one' {p : Smp} {w : World} {ad : Addr} (h0 : w.cell? ad = some (.int .i64 p.1)) (h1 : w.cell? (ad.add 1) = some (.int .i64 p.2)) : ∀ j u, (smpCells [p])[j]? = some u → w.cell? (ad.add j) = some u := by
  intro j u hj
  match j, hj with
  | 0, hj => simp [smpCells] at hj; subst hj; simpa [Addr.add] using h0
  | 1, hj => simp [smpCells] at hj; subst hj; exact h1
set_option maxRecDepth 10000 in
/-- One path appended: the queue stays in its block, or lies in a new one; no other block changes. -/
theorem run_appendFp (w : World) (ty : TypeId) (base g n cap : Nat) (ps : List Smp) (y : Smp) (ad : Addr) (hg : GrowS 82 w base (some ⟨g, 0, none⟩) n cap ps)
    (hc : ∀ j u, (smpCells [y])[j]? = some u → w.cell? (ad.add j) = some u) (hn : n < 1099511627775) (hb : base ≤ w.heap.size) :
    ∃ g' cap' w', (Builtin.append_ #[84, 84] ty #[.slice (some ⟨g, 0, none⟩) n cap, .slice (some ad) 1 1]).run Try.prog w = .ok (.slice (some ⟨g', 0, none⟩) (n + 1) cap') w' ∧
      (g' = g ∨ w.heap.size ≤ g') ∧ GrowS 82 w' base (some ⟨g', 0, none⟩) (n + 1) cap' (ps ++ [y]) ∧ w.grownBy w' (some g) := by
  obtain ⟨i0, hi0, hz0, hz1, hz2⟩ := infoFp_parts
  have h1c : ∀ u ∈ smpCells [y], u.oneCell' = true := fun u hu => by
    simp [smpCells] at hu
    rcases hu with rfl | rfl <;> rfl
  by_cases hroom : n + 1 ≤ cap
  · obtain ⟨w', hr, h2, h3⟩ := run_append_own_spare (P := Try.prog) w base 84 ty 82 i0 2 Try.underlying84 hi0 hz1 g n cap (smpCells ps) hg ad 1 1 (smpCells [y]) rfl hc h1c hroom
    refine ⟨g, cap, w', hr, .inl rfl, ?_, h3⟩
    unfold GrowS; rw [smpCells_append]; exact h2
  · have hbo : ∀ j u, (smpCells ps)[j]? = some u → w.cell? ((⟨g, 0, none⟩ : Addr).add j) = some u := World.ownsRow.cells hg rfl
    obtain ⟨v', w', hr, h2, h3⟩ := run_append_arg_grows (P := Try.prog) w 84 ty 82 i0 (.agg #[.int .i64 0, .int .i64 0]) 2 16 Try.underlying84 hi0 hz0 hz1 hz2 rfl (by omega) ⟨g, 0, none⟩ n cap (smpCells ps) (by have := hg.len; rw [smpCells_length, this]) hbo ad 1 1 (smpCells [y]) rfl hc (by omega) (by unfold maxLen; omega) (by omega)
    have h4 : w.grownBy w' (some g) := ⟨h3.os, h3.tape, h3.output, h3.size, fun k hk _ => h3.block k hk (by simp)⟩
    rcases h2.2 with ⟨_, h0⟩ | ⟨g', c', cur, e, hbg, rest⟩
    · omega
    · subst e
      refine ⟨g', c', w', hr, .inr hbg, ?_, h4⟩
      unfold GrowS; rw [smpCells_append]
      exact ⟨h2.1, .inr ⟨g', c', cur, rfl, Nat.le_trans hb hbg, rest⟩⟩
theorem rowIs_ne {w : World} {b v : Nat} {t t' : TypeId} {n m : Nat} {f g : Nat → Value} (h : w.rowIs b t n f) (h' : w.rowIs v t' m g) (ht : t ≠ t') : b ≠ v := fun e => by
  subst e
  obtain ⟨c, h1, _⟩ := h
  obtain ⟨c', h2, _⟩ := h'
  rw [h1] at h2
  injection h2 with h2
  injection h2 with _ h2
  exact ht h2
set_option maxRecDepth 10000 in
/-- The queue behind a Push: where append has left it. -/
theorem pv_pushed {W U : World} {D v b b' cap n cap' : Nat} {L : List Smp} {y : Smp} (h : PV W D v b cap L) (hl : L.length < 1000) (hn : n = L.length) (hg : GrowS 82 U D (some ⟨b', 0, none⟩) (n + 1) cap' (L ++ [y])) (hv : U.heap[v]? = W.heap[v]?) :
    PV (U.setCell ⟨v, 0, none⟩ (.slice (some ⟨b', 0, none⟩) (n + 1) cap')) D v b' cap' (L ++ [y]) := by
  subst hn
  obtain ⟨b9, e9, h1, h2, h3⟩ := pr_grow hg (by omega)
  injection e9 with e9
  injection e9 with e9
  subst e9
  have hvr : U.rowIs v 84 1 (fun _ => .slice (some ⟨b, 0, none⟩) L.length cap) := h.2.1.of_block hv
  have hne : b' ≠ v := by
    obtain ⟨_, _, f, hf, _⟩ := h3
    exact rowIs_ne hf hvr (by decide)
  exact PV.set ⟨h1, h.1.2.1, hne, by rw [List.length_append, List.length_singleton]; omega⟩ hvr h3 h2
section
variable {w : World} {ops : Array Oper} {o : Oper} {a : Act} {Q : Exit → Act → World → Prop}
set_option maxRecDepth 10000 in
theorem step_appFp {K : Act → World → Prop} {E : Prop} (s x : Operand) (base g n cap cb : Nat) (ps : List Smp) (y : Smp)
    (hgd : o.guard = none) (ho : o.op = .call { callee := .builtin .append, args := #[s, x], argTypes := #[84, 84] }) (hs : a.eval s = .slice (some ⟨g, 0, none⟩) n cap) (hx : a.eval x = .slice (some ⟨cb, 0, none⟩) 1 1)
    (hg : GrowS 82 w base (some ⟨g, 0, none⟩) n cap ps) (hc : w.heap[cb]? = some (.cells #[.int .i64 y.1, .int .i64 y.2] 82 (0, 0))) (hn : n < 1099511627775) (hb : base ≤ w.heap.size)
    (h : ∀ g' cap' w', (g' = g ∨ w.heap.size ≤ g') → GrowS 82 w' base (some ⟨g', 0, none⟩) (n + 1) cap' (ps ++ [y]) → w.grownBy w' (some g) → K (a.put o.dst (.slice (some ⟨g', 0, none⟩) (n + 1) cap')) w') : if Region.wanted o (yielded ops a.tmps) = true then Oper.wp Try.prog o a w K Q else E := by
  rw [if_pos (by simp [Region.wanted, hgd])]
  obtain ⟨g', cap', w', hr, h1, h2, h3⟩ := run_appendFp w o.type base g n cap ps y ⟨cb, 0, none⟩ hg (smpCells_one' (cell_of_row _ _ _ _ _ _ hc) (cell_of_row _ _ 1 _ _ _ hc)) hn hb
  exact Lib.wp_append_run w s x _ _ ho _ _ hs hx _ _ hr (h g' cap' w' h1 h2 h3)
end
set_option maxRecDepth 10000 in
set_option maxHeartbeats 2000000 in
theorem pPush_any (W : World) (D v b cap : Nat) (L : List Smp) (y : Smp) (h : PV W D v b cap L) (hl : L.length < 1000) :
    Calls Try.prog 103 #[.pointer (some ⟨v, 0, none⟩), .iface 82 (ptV y)] W fun e w' => e = .returned (.tuple #[]) ∧ ∃ b' cap', PV w' D v b' cap' (L ++ [y]) ∧ KeptQ b v W w' ∧ (b' = b ∨ W.heap.size ≤ b') := by
  have cvd : W.drew.cell? ⟨v, 0, none⟩ = some (.slice (some ⟨b, 0, none⟩) L.length cap) := h.cell
  have hvl : v < W.drew.heap.size := h.2.1.lt
  obtain ⟨o, ho⟩ : ∃ o : Obj, o = .cells #[.int .i64 y.1, .int .i64 y.2] 82 := ⟨_, rfl⟩
  have cva : (W.drew.alloc o).cell? ⟨v, 0, none⟩ = some (.slice (some ⟨b, 0, none⟩) L.length cap) := (World.cell?_of_block (Below.heap_alloc W.drew o v hvl)).trans cvd
  have HG : Hid (GrowS 82 (W.drew.alloc o) D (some ⟨b, 0, none⟩) L.length cap L) := GrowS.alloc (w := W.drew) (h.2.2.grow h.1.1) o
  have HH := Lib.hid (heap_alloc_last W.drew o)
  have HDs : Hid (D ≤ W.drew.heap.size) := by have h1 := h.1; show D ≤ W.drew.heap.size; omega
  have HB : Hid (KeptQ b v W (W.drew.alloc o)) := ((KeptQ.refl b v W).drewN 1).trans (KeptQ.of_below (alloc_belowX W.drew o))
  have HV := Lib.hid ((Below.heap_alloc W.drew o v hvl).trans (show W.drew.heap[v]? = W.heap[v]? from rfl))
  have HVs := Lib.hid (show v < (W.drew.alloc o).heap.size by simp; exact Nat.lt_succ_of_lt hvl)
  have HWs := Lib.hid (show W.heap.size ≤ (W.drew.alloc o).heap.size by simp)
  have HDa := Lib.hid (show D ≤ (W.drew.alloc o).heap.size by simp; exact Nat.le_succ_of_le HDs.out)
  have HNE := Lib.hid (show v ≠ b from Ne.symm h.1.2.2.1)
  have HR := Lib.hid h.2.1
  have HL := Lib.hid hl
  obtain ⟨n, hn⟩ : ∃ n, n = L.length := ⟨_, rfl⟩
  have HFIN := Lib.hid (fun (U : World) b' cap' (hg : GrowS 82 U D (some ⟨b', 0, none⟩) (n + 1) cap' (L ++ [y])) (hv : U.heap[v]? = W.heap[v]?) => pv_pushed h hl hn hg hv)
  rw [← hn] at cvd cva HG HL HR
  rw [ho] at cva HG HH HB HV HVs HDa HWs
  clear h hn hl ho hvl
  unfold ptV
  have hta : ∀ (u : Value) (w : World), (Instr.typeAssert (.iface 82 u) 20 82 false).run Try.prog w = .ok u w := run_assertPt
  go_enter Try.func103, Try.ntmps103
  go_wp2_with fail
  refine wp_region_any (by kernel_rfl) ?_
  change wpAny _ _ _ _ _ _ _ (World.drew _)
  generalize W.drew = W0 at *
  refine wpAny_take (i := 0) (v := ?v1) rfl (by kernel_rfl) (by kernel_rfl) (by kernel_rfl) (fun _ _ _ h => h) (Or.inl ⟨by kernel_rfl, ?h1⟩) ?_
  case h1 => intro w; go_simp; try with_reducible rfl
  go_simp
  refine wpAny_take (i := 1) (v := ?v2) rfl (by kernel_rfl) (by kernel_rfl) (by kernel_rfl) (fun _ _ _ h => h) (Or.inl ⟨by kernel_rfl, ?h2⟩) ?_
  case h2 => intro w; go_simp; try with_reducible rfl
  go_simp
  refine wpAny_take (i := 4) (v := ?v3) rfl (by kernel_rfl) (by kernel_rfl) (by kernel_rfl) (fun _ _ _ h => h) (Or.inl ⟨by kernel_rfl, ?h3⟩) ?_
  case h3 => intro w; go_simp; try with_reducible rfl
  go_simp
  refine wpAny_take (i := 2) (v := ?v4) rfl (by kernel_rfl) (by kernel_rfl) (by kernel_rfl) (fun _ _ _ h => h) (Or.inl ⟨by kernel_rfl, ?h4⟩) ?_
  case h4 => intro w; go_simp; try with_reducible rfl
  go_simp
  refine wpAny_take (i := 5) (v := ?v5) rfl (by kernel_rfl) (by kernel_rfl) (by kernel_rfl) (fun _ _ _ h => h) (Or.inl ⟨by kernel_rfl, ?h5⟩) ?_
  case h5 => intro w; go_simp; try with_reducible rfl
  go_simp
  refine wpAny_ready (rs := [3, 6]) (by kernel_rfl) (by simp) (AllReady.cons rfl (fun K hK => ?_) (AllReady.cons rfl (fun K hK => ?_) AllReady.nil))
  · skip
    go_simp
    refine hK _ _ ?_
    clear hK K
    refine wpAny_ready (rs := [6]) (by kernel_rfl) (by simp) (AllReady.cons rfl (fun K hK => ?_) AllReady.nil)
    go_simp
    refine hK _ _ ?_
    clear hK K
    generalize W0.alloc (.cells #[.int .i64 y.1, .int .i64 y.2] 82) = U0 at *
    refine wpAny_ready (rs := [7]) (by kernel_rfl) (by simp) (AllReady.cons rfl (fun K hK => ?_) AllReady.nil)
    refine step_appFp (.tmp 7) (.tmp 10) D b n cap W0.heap.size L y rfl rfl rfl rfl HG.out HH.out (by have := HL.out; omega) HDa.out ?_
    intro b' cap' U hbb hg hgb
    refine hK _ _ ?_
    clear hK K
    have hUv : U.heap[v]? = U0.heap[v]? := hgb.block v HVs.out (fun e => by injection e with e; exact HNE.out e)
    have hq := HFIN.out U b' cap' hg (hUv.trans HV.out)
    have hrU : U.rowIs v 84 1 (fun _ => .slice (some ⟨b, 0, none⟩) n cap) := HR.out.of_block (hUv.trans HV.out)
    have hcU := hrU.cell (i := 0) (by omega)
    have hfU := hrU.frozen 0
    have HQ := Lib.hid hq
    have HBU := Lib.hid ((HB.out.trans (⟨hgb.os, hgb.tape, hgb.output, hgb.size, fun j hj h1 _ => hgb.block j hj (fun e => by injection e with e; exact h1 e)⟩ : KeptQ b v U0 U)).setV 0 (.slice (some ⟨b', 0, none⟩) (n + 1) cap'))
    have HBB := Lib.hid (show b' = b ∨ W.heap.size ≤ b' by have := HWs.out; omega)
    clear hg hgb hUv hrU hq hbb
    refine wpAny_take (i := 8) (v := ?v11) rfl (by kernel_rfl) (by kernel_rfl) (by kernel_rfl) (fun _ _ _ h => h) (Or.inl ⟨by kernel_rfl, ?h11⟩) ?_
    case h11 => intro w; go_simp; try with_reducible rfl
    go_simp
    refine wpAny_ready (rs := [9]) (by kernel_rfl) (by simp) (AllReady.cons rfl (fun K hK => ?_) AllReady.nil)
    go_simp
    refine hK _ _ ?_
    clear hK K
    refine wpAny_done (by kernel_rfl) ?_ _
    go_wp2
    go_end0
    exact ⟨rfl, b', cap', HQ.out, HBU.out, HBB.out⟩
  · skip
    go_simp
    refine hK _ _ ?_
    clear hK K
    refine wpAny_ready (rs := [3]) (by kernel_rfl) (by simp) (AllReady.cons rfl (fun K hK => ?_) AllReady.nil)
    go_simp
    refine hK _ _ ?_
    clear hK K
    generalize W0.alloc (.cells #[.int .i64 y.1, .int .i64 y.2] 82) = U0 at *
    refine wpAny_ready (rs := [7]) (by kernel_rfl) (by simp) (AllReady.cons rfl (fun K hK => ?_) AllReady.nil)
    refine step_appFp (.tmp 7) (.tmp 10) D b n cap W0.heap.size L y rfl rfl rfl rfl HG.out HH.out (by have := HL.out; omega) HDa.out ?_
    intro b' cap' U hbb hg hgb
    refine hK _ _ ?_
    clear hK K
    have hUv : U.heap[v]? = U0.heap[v]? := hgb.block v HVs.out (fun e => by injection e with e; exact HNE.out e)
    have hq := HFIN.out U b' cap' hg (hUv.trans HV.out)
    have hrU : U.rowIs v 84 1 (fun _ => .slice (some ⟨b, 0, none⟩) n cap) := HR.out.of_block (hUv.trans HV.out)
    have hcU := hrU.cell (i := 0) (by omega)
    have hfU := hrU.frozen 0
    have HQ := Lib.hid hq
    have HBU := Lib.hid ((HB.out.trans (⟨hgb.os, hgb.tape, hgb.output, hgb.size, fun j hj h1 _ => hgb.block j hj (fun e => by injection e with e; exact h1 e)⟩ : KeptQ b v U0 U)).setV 0 (.slice (some ⟨b', 0, none⟩) (n + 1) cap'))
    have HBB := Lib.hid (show b' = b ∨ W.heap.size ≤ b' by have := HWs.out; omega)
    clear hg hgb hUv hrU hq hbb
    refine wpAny_take (i := 8) (v := ?v21) rfl (by kernel_rfl) (by kernel_rfl) (by kernel_rfl) (fun _ _ _ h => h) (Or.inl ⟨by kernel_rfl, ?h21⟩) ?_
    case h21 => intro w; go_simp; try with_reducible rfl
    go_simp
    refine wpAny_ready (rs := [9]) (by kernel_rfl) (by simp) (AllReady.cons rfl (fun K hK => ?_) AllReady.nil)
    go_simp
    refine hK _ _ ?_
    clear hK K
    refine wpAny_done (by kernel_rfl) ?_ _
    go_wp2
    go_end0
    exact ⟨rfl, b', cap', HQ.out, HBU.out, HBB.out⟩

def cl (L : List Smp) (i : Nat) : Int := (pn L i).2
theorem pwp_length (L : List Smp) (i j : Nat) : (pwp L i j).length = L.length := by simp [pwp]
theorem pn_pwp {L : List Smp} {i j : Nat} (hi : i < L.length) (hj : j < L.length) (k : Nat) (hk : k < L.length) : pn (pwp L i j) k = if k = j then pn L i else if k = i then pn L j else pn L k := by
  unfold pwp
  rw [pn_set (by rw [List.length_set]; exact hj) (by rw [List.length_set]; exact hk), pn_set hi hk]
theorem cl_pwp {L : List Smp} {i j : Nat} (hi : i < L.length) (hj : j < L.length) (k : Nat) (hk : k < L.length) : cl (pwp L i j) k = if k = j then cl L i else if k = i then cl L j else cl L k := by
  unfold cl
  rw [pn_pwp hi hj k hk]
  split <;> (try split) <;> rfl
theorem pn_get {L : List Smp} {i : Nat} (hi : i < L.length) : pn L i = L[i] := by unfold pn; simp [hi]
theorem pwp_perm {L : List Smp} {i j : Nat} (hi : i < L.length) (hj : j < L.length) : (pwp L i j).Perm L := by
  unfold pwp
  rw [pn_get hi, pn_get hj]
  exact List.set_set_perm hi hj
/-- A heap; its first is least. -/
def Hq (L : List Smp) (n : Nat) : Prop := ∀ c, 0 < c → c < n → cl L ((c - 1) / 2) ≤ cl L c
theorem hq_least {L : List Smp} {n : Nat} (h : Hq L n) : ∀ c, c < n → cl L 0 ≤ cl L c := by
  intro c
  induction c using Nat.strongRecOn with
  | ind c ih =>
    intro hc
    by_cases e : c = 0
    · subst e; exact Int.le_refl _
    · exact Int.le_trans (ih ((c - 1) / 2) (by omega) (by omega)) (h c (by omega) hc)
/-- A heap but for one path that may be too low; too high. -/
def HqUp (L : List Smp) (j : Nat) : Prop := (∀ c, 0 < c → c < L.length → c ≠ j → cl L ((c - 1) / 2) ≤ cl L c) ∧ ∀ c, 0 < j → 0 < c → c < L.length → (c - 1) / 2 = j → cl L ((j - 1) / 2) ≤ cl L c
def HqDn (L : List Smp) (n i : Nat) : Prop := (∀ c, 0 < c → c < n → (c - 1) / 2 ≠ i → cl L ((c - 1) / 2) ≤ cl L c) ∧ ∀ c, 0 < i → 0 < c → c < n → (c - 1) / 2 = i → cl L ((i - 1) / 2) ≤ cl L c
theorem hqUp_end {L : List Smp} {j : Nat} (h : HqUp L j) (hj : j = 0 ∨ cl L ((j - 1) / 2) ≤ cl L j) : Hq L L.length := fun c h0 hc => by
  by_cases e : c = j
  · subst e
    rcases hj with hj | hj
    · omega
    · exact hj
  · exact h.1 c h0 hc e
theorem hqUp_step {L : List Smp} {j : Nat} (h : HqUp L j) (hj : j < L.length) (h0 : 0 < j) (hlt : cl L j < cl L ((j - 1) / 2)) : HqUp (pwp L ((j - 1) / 2) j) ((j - 1) / 2) := by
  obtain ⟨i, hi⟩ : ∃ i, i = (j - 1) / 2 := ⟨_, rfl⟩
  rw [← hi] at hlt ⊢
  have hil : i < L.length := by omega
  have S := fun k hk => cl_pwp (L := L) hil hj k hk
  refine ⟨fun c c0 hc hne => ?_, fun c i0 c0 hc he => ?_⟩
  · rw [pwp_length] at hc
    rw [S c hc, S ((c - 1) / 2) (by omega)]
    by_cases e1 : c = j
    · subst e1
      rw [← hi, if_neg (by omega), if_pos rfl, if_pos rfl]
      omega
    · rw [if_neg e1, if_neg hne]
      by_cases e2 : (c - 1) / 2 = j
      · rw [if_pos e2]
        have := h.2 c h0 c0 hc e2
        rw [← hi] at this
        exact this
      · rw [if_neg e2]
        by_cases e3 : (c - 1) / 2 = i
        · rw [if_pos e3]
          have := h.1 c c0 hc e1
          rw [e3] at this
          omega
        · rw [if_neg e3]
          exact h.1 c c0 hc e1
  · rw [pwp_length] at hc
    have hp : cl L ((i - 1) / 2) ≤ cl L i := h.1 i i0 hil (by omega)
    rw [S c hc, S ((i - 1) / 2) (by omega), if_neg (by omega), if_neg (by omega)]
    by_cases e1 : c = j
    · rw [if_pos e1]; exact hp
    · rw [if_neg e1, if_neg (by omega)]
      have := h.1 c c0 hc e1
      rw [he] at this
      omega
theorem hqDn_end {L : List Smp} {n i : Nat} (h : HqDn L n i) (hi : ∀ c, 0 < c → c < n → (c - 1) / 2 = i → cl L i ≤ cl L c) : Hq L n := fun c h0 hc => by
  by_cases e : (c - 1) / 2 = i
  · rw [e]; exact hi c h0 hc e
  · exact h.1 c h0 hc e
theorem hqDn_step {L : List Smp} {n i j : Nat} (h : HqDn L n i) (hn : n ≤ L.length) (hj0 : 0 < j) (hj : j < n) (hji : (j - 1) / 2 = i) (hmin : ∀ c, 0 < c → c < n → (c - 1) / 2 = i → cl L j ≤ cl L c) (hlt : cl L j < cl L i) : HqDn (pwp L i j) n j := by
  have hil : i < L.length := by omega
  have hjl : j < L.length := by omega
  have S := fun k hk => cl_pwp (L := L) hil hjl k hk
  refine ⟨fun c c0 hc hne => ?_, fun c _ c0 hc he => ?_⟩
  · rw [S c (by omega), S ((c - 1) / 2) (by omega), if_neg hne]
    by_cases e1 : c = j
    · subst e1
      rw [if_pos hji, if_pos rfl]
      omega
    · rw [if_neg e1]
      by_cases e2 : c = i
      · subst e2
        rw [if_pos rfl, if_neg (by omega)]
        exact h.2 j c0 hj0 hj hji
      · rw [if_neg e2]
        by_cases e3 : (c - 1) / 2 = i
        · rw [if_pos e3]
          exact hmin c c0 hc e3
        · rw [if_neg e3]
          exact h.1 c c0 hc e3
  · rw [S c (by omega), S ((j - 1) / 2) (by omega), hji, if_neg (by omega), if_pos rfl, if_neg (by omega), if_neg (by omega)]
    have := h.1 c c0 hc (by omega)
    rw [he] at this
    exact this
/-- The ways in. -/
theorem cl_app {L : List Smp} {y : Smp} {i : Nat} (hi : i < L.length) : cl (L ++ [y]) i = cl L i := by
  unfold cl pn
  rw [List.getD_eq_getElem?_getD, List.getD_eq_getElem?_getD, List.getElem?_append_left hi]
theorem hqUp_push {L : List Smp} (h : Hq L L.length) (y : Smp) : HqUp (L ++ [y]) L.length := by
  refine ⟨fun c c0 hc hne => ?_, fun c _ c0 hc he => ?_⟩
  · rw [List.length_append, List.length_singleton] at hc
    rw [cl_app (show c < L.length by omega), cl_app (show (c - 1) / 2 < L.length by omega)]
    exact h c c0 (by omega)
  · rw [List.length_append, List.length_singleton] at hc
    omega
theorem hqDn_pop {L : List Smp} {n : Nat} (h : Hq L L.length) (hn : L.length = n + 1) : HqDn (pwp L 0 n) n 0 := by
  have h0 : 0 < L.length := by omega
  have hl : n < L.length := by omega
  refine ⟨fun c c0 hc hne => ?_, fun c i0 => absurd i0 (by omega)⟩
  rw [cl_pwp h0 hl c (by omega), cl_pwp h0 hl ((c - 1) / 2) (by omega), if_neg (by omega), if_neg hne, if_neg (by omega), if_neg (by omega)]
  exact h c c0 (by omega)
theorem hq_take {L : List Smp} {n : Nat} (h : Hq L n) (hn : n ≤ L.length) : Hq (L.take n) (L.take n).length := fun c c0 hc => by
  rw [List.length_take] at hc
  have e : ∀ k, k < n → cl (L.take n) k = cl L k := fun k hk => by unfold cl pn; simp [hk]
  rw [e c (by omega), e ((c - 1) / 2) (by omega)]
  exact h c c0 (by omega)
theorem take_lastP {L : List Smp} {n : Nat} (hn : L.length = n + 1) : L = L.take n ++ [pn L n] := by
  have h1 : L.take (n + 1) = L.take n ++ [L[n]] := (List.take_append_getElem (by omega)).symm
  rw [List.take_of_length_le (by omega)] at h1
  rw [pn_get (by omega)]
  exact h1

theorem nilchkP (xt : TypeId) (s1 s2 : String) (a : Addr) (w : World) : (Builtin.ssaWrapNilChk_ #[xt] xt #[.pointer (some a), strVal s1, strVal s2]).run Try.prog w = .ok (.pointer (some a)) w := rfl
set_option maxRecDepth 10000 in
theorem recvValP (a : Addr) (nm : String) (w : World) : (receiverAt 86 (.val (.pointer (some a))) false (some nm)).run Try.prog w = (loadVar 84 a).run Try.prog w := by
  unfold receiverAt
  rw [Sem.run_bind, run_underlying Try.underlying86]
  show ((do let ptr ← Builtin.ssaWrapNilChk_ #[86] 86 #[.pointer (some a), strVal "", strVal nm]; loadVar 84 (← asAddr ptr) : Sem Value)).run Try.prog w = _
  rw [Sem.run_bind, nilchkP]
  rfl
set_option maxRecDepth 10000 in
theorem mValP (name : String) (f : FuncId) (a : Addr) (w : World) (hm : (Try.prog.info? 86).map (fun i => (i.methods.find? (·.name == name)).map fun m => (m.path.toList, m.func)) = some (some ([], some (f, false)))) :
    (method 226 86 (.pointer (some a)) name).run Try.prog w = ((loadVar 84 a).run Try.prog w).andThen fun u w' => .ok (f, u) w' := by
  cases hi : Try.prog.info? 86 with
  | none => simp [hi] at hm
  | some i =>
    rw [hi] at hm
    simp only [Option.map_some, Option.some.injEq] at hm
    obtain ⟨m, hf, h2⟩ := Option.map_eq_some_iff.1 hm
    simp only [Prod.mk.injEq] at h2
    obtain ⟨h3, h4⟩ := h2
    have h5 : m.path.isEmpty = true := by simpa using h3
    have ht : (typeInfo 86).run Try.prog w = .ok i w := by simp [typeInfo, hi]
    show (method (225 + 1) 86 (.pointer (some a)) name).run Try.prog w = _
    rw [method, Sem.run_bind, ht]
    simp only [Result.andThen_ok, hf, h3, h4, h5, follow, Sem.run_bind, Sem.run_pure, if_true, recvValP]
set_option maxRecDepth 10000 in
theorem loadPQ (v : Nat) (x : Value) (w : World) (h : w.cell? ⟨v, 0, none⟩ = some x) : (loadVar 84 ⟨v, 0, none⟩).run Try.prog w = .ok x w := by
  simp [loadVar, isAgg, run_underlying Try.underlying84, h]
section
variable {w : World} {D v b cap : Nat} {L : List Smp}
set_option maxRecDepth 10000 in
theorem mLessP (h : PV w D v b cap L) : (method 226 86 (.pointer (some ⟨v, 0, none⟩)) "Less").run Try.prog w = .ok (100, .slice (some ⟨b, 0, none⟩) L.length cap) w := by
  rw [mValP "Less" 100 _ w (by kernel_rfl), loadPQ v _ w h.cell]; rfl
set_option maxRecDepth 10000 in
theorem mSwapP (h : PV w D v b cap L) : (method 226 86 (.pointer (some ⟨v, 0, none⟩)) "Swap").run Try.prog w = .ok (101, .slice (some ⟨b, 0, none⟩) L.length cap) w := by
  rw [mValP "Swap" 101 _ w (by kernel_rfl), loadPQ v _ w h.cell]; rfl
set_option maxRecDepth 10000 in
theorem mLenP (h : PV w D v b cap L) : (method 226 86 (.pointer (some ⟨v, 0, none⟩)) "Len").run Try.prog w = .ok (99, .slice (some ⟨b, 0, none⟩) L.length cap) w := by
  rw [mValP "Len" 99 _ w (by kernel_rfl), loadPQ v _ w h.cell]; rfl
end
set_option maxRecDepth 10000 in
theorem mPushP (v : Nat) (w : World) : (method 226 86 (.pointer (some ⟨v, 0, none⟩)) "Push").run Try.prog w = .ok (103, .pointer (some ⟨v, 0, none⟩)) w := by kernel_rfl
set_option maxRecDepth 10000 in
theorem mPopP (v : Nat) (w : World) : (method 226 86 (.pointer (some ⟨v, 0, none⟩)) "Pop").run Try.prog w = .ok (102, .pointer (some ⟨v, 0, none⟩)) w := by kernel_rfl
/-- What up leaves: the same paths, a heap. -/
def UpPostP (W : World) (D v b cap : Nat) (L : List Smp) (e : Ending) (w' : World) : Prop :=
  e = .returned (.tuple #[]) ∧ ∃ M, PV w' D v b cap M ∧ Hq M M.length ∧ M.Perm L ∧ KeptQ b v W w'
set_option maxRecDepth 10000 in
/-- The queue after an exchange, as Swap leaves it. -/
theorem swap_isP (W : World) (D v b cap : Nat) (L : List Smp) (i j : Nat) (h : PV W D v b cap L) (hi : i < L.length) (hj : j < L.length) :
    Calls Try.prog 101 #[.slice (some ⟨b, 0, none⟩) L.length cap, .int .i64 (i : Int), .int .i64 (j : Int)] W (PQPost W D v b cap (pwp L i j) (.tuple #[])) :=
  (pSwap_any W b cap L i j h.2.2 hi hj).mono fun _ _ ⟨h1, n, h2⟩ => by
    subst h2
    exact ⟨h1, (h.swap hi hj).drewN n, (((KeptQ.refl b v W).put2 _ _).put2 _ _).drewN n⟩
set_option maxRecDepth 10000 in
theorem less_isP (W : World) (D v b cap : Nat) (L : List Smp) (i j : Nat) (h : PV W D v b cap L) (hi : i < L.length) (hj : j < L.length) (r : Bool) (hr : decide (cl L i < cl L j) = r) :
    Calls Try.prog 100 #[.slice (some ⟨b, 0, none⟩) L.length cap, .int .i64 (i : Int), .int .i64 (j : Int)] W (PQPost W D v b cap L (.bool r)) :=
  (pLess_any W b cap L i j r h.2.2 hi hj hr).mono fun _ _ ⟨h1, n, h2⟩ => by
    subst h2
    exact ⟨h1, h.drewN n, (KeptQ.refl b v W).drewN n⟩
set_option maxRecDepth 10000 in
set_option maxHeartbeats 4000000 in
theorem up_anyP (W : World) (D v b cap : Nat) (L : List Smp) (h : PV W D v b cap L) (j : Nat) (hj : j < L.length) (hu : HqUp L j) :
    Calls Try.prog 76 #[.iface 86 (.pointer (some ⟨v, 0, none⟩)), .int .i64 (j : Int)] W (UpPostP W D v b cap L) := by
  have HQ0 := Lib.hid h
  have HU0 := Lib.hid hu
  have hL8 := h.len
  clear h hu
  go_enter Try.func76, Try.ntmps76
  go_wp2
  go_loopw [1] (fun i wr => ∃ (k : Nat) (M : List Smp), k < L.length ∧ M.length = L.length ∧ i = .int .i64 (k : Int) ∧ PV wr D v b cap M ∧ HqUp M k ∧ M.Perm L ∧ KeptQ b v W wr) (fun i _ => (intOf i).toNat)
  case atStart => exact ⟨j, L, hj, rfl, rfl, HQ0.out, HU0.out, List.Perm.refl _, KeptQ.refl _ _ _⟩
  case round =>
    obtain ⟨k, M, hk, hML, rfl, hq, hu, hp, hkp⟩ := hrel
    have HQ := Lib.hid hq
    have HU := Lib.hid hu
    have HP := Lib.hid hp
    have HK := Lib.hid hkp
    have hM8 : M.length ≤ 1000 := hq.len
    have hkM : k < M.length := by omega
    have HML := Lib.hid hML
    have r1 := wrapW (n := (k : Int) - 1) (by omega)
    have r1' := wrapW' (n := (k : Int) - 1) (by omega)
    clear hq hu hp hkp HQ0 HU0 hML hk hL8 hj
    by_cases hk0 : k = 0
    · subst hk0
      have HE := Lib.hid (hqUp_end HU.out (.inl rfl))
      go_wp2
      go_end0
      exact ⟨rfl, M, HQ.out, HE.out, HP.out, HK.out⟩
    · obtain ⟨p, hp⟩ : ∃ p, p = (k - 1) / 2 := ⟨_, rfl⟩
      have hpk : p < k := by omega
      have ht : ((k : Int) - 1).tdiv 2 = (p : Int) := by rw [Int.tdiv_eq_ediv_of_nonneg (by omega)]; omega
      have r2 := wrapW (n := (p : Int)) (by omega)
      have r2' := wrapW' (n := (p : Int)) (by omega)
      have hne : ¬ (p : Int) = (k : Int) := by omega
      have hneb : ((p : Int) == (k : Int)) = false := by simp; omega
      have hm1 := mLessP HQ.out
      by_cases hlt : cl M k < cl M p
      · have HL := Lib.hid (less_isP wr D v b cap M k p HQ.out (by omega) (by omega) true (decide_eq_true hlt))
        have HS := Lib.hid (hqUp_step HU.out (by omega) (by omega) (by rw [← hp]; exact hlt))
        rw [← hp] at HS
        have HW := Lib.hid (fun W h => swap_isP W D v b cap M p k h (by omega) (by omega))
        have HE := Lib.hid (show (pwp M p k).length = L.length by rw [pwp_length]; exact HML.out)
        have HF := Lib.hid ((pwp_perm (L := M) (i := p) (j := k) (by omega) (by omega)).trans HP.out)
        have HPK := Lib.hid hpk
        have HKM := Lib.hid hkM
        clear hlt hp hpk hkM hk0
        go_wp2_with (first
          | (go_at_call 100; ((with_reducible refine HL.out.mono ?_); rintro e w1 ⟨rfl, q1, k1⟩; have Q1 := Lib.hid q1; have K1 := Lib.hid (HK.out.trans k1); have hm2 := mSwapP q1; clear q1 k1))
          | (go_at_call 101; ((with_reducible refine (HW.out _ Q1.out).mono ?_); rintro e w2 ⟨rfl, q2, k2⟩; have Q2 := Lib.hid q2; have K2 := Lib.hid (K1.out.trans k2); clear q2 k2)))
        go_roundw
        case rel =>
          have h1 := HPK.out
          have h2 := HKM.out
          have h3 := HML.out
          exact ⟨p, _, by omega, HE.out, rfl, Q2.out, HS.out, HF.out, K2.out⟩
        case measure => have h1 := HPK.out; simp [intOf]; omega
      · have HL := Lib.hid (less_isP wr D v b cap M k p HQ.out (by omega) (by omega) false (decide_eq_false hlt))
        have HE := Lib.hid (hqUp_end HU.out (.inr (by rw [← hp]; omega)))
        clear hlt hp hpk hkM hk0
        go_wp2_with (go_at_call 100; ((with_reducible refine HL.out.mono ?_); rintro e w1 ⟨rfl, q1, k1⟩; have Q1 := Lib.hid q1; have K1 := Lib.hid (HK.out.trans k1); clear q1 k1))
        go_end0
        exact ⟨rfl, M, Q1.out, HE.out, HP.out, K1.out⟩
/-- What down leaves: the same paths, a heap of the first n; the others are where they were. -/
def DnPostP (W : World) (D v b cap n : Nat) (L : List Smp) (e : Ending) (w' : World) : Prop :=
  ∃ r M, e = .returned (.bool r) ∧ PV w' D v b cap M ∧ Hq M n ∧ M.Perm L ∧ (∀ t, n ≤ t → t < L.length → pn M t = pn L t) ∧ M.length = L.length ∧ KeptQ b v W w'
theorem childP {c k : Nat} (h : 0 < c) (e : (c - 1) / 2 = k) : c = 2 * k + 1 ∨ c = 2 * k + 2 := by omega
theorem pwp_tail {L M : List Smp} {n i j : Nat} (hM : M.length = L.length) (hi : i < n) (hj : j < n) (_hn : n ≤ L.length) (h : ∀ t, n ≤ t → t < L.length → pn M t = pn L t) : ∀ t, n ≤ t → t < L.length → pn (pwp M i j) t = pn L t := fun t h1 h2 => by
  rw [pn_pwp (by omega) (by omega) t (by omega), if_neg (by omega), if_neg (by omega)]
  exact h t h1 h2
set_option maxRecDepth 10000 in
set_option maxHeartbeats 8000000 in
theorem down_anyP (W : World) (D v b cap : Nat) (L : List Smp) (h : PV W D v b cap L) (n : Nat) (hn : n ≤ L.length) (hd : HqDn L n 0) :
    Calls Try.prog 75 #[.iface 86 (.pointer (some ⟨v, 0, none⟩)), .int .i64 0, .int .i64 (n : Int)] W (DnPostP W D v b cap n L) := by
  have HQ0 := Lib.hid h
  have HU0 := Lib.hid hd
  have HN := Lib.hid hn
  have hn8 : n ≤ 1000 := Nat.le_trans hn h.len
  clear h hd hn
  go_enter Try.func75, Try.ntmps75
  go_wp2
  go_loopw [7] (fun i wr => ∃ (k : Nat) (M : List Smp), k ≤ n ∧ M.length = L.length ∧ i = .int .i64 (k : Int) ∧ PV wr D v b cap M ∧ HqDn M n k ∧ M.Perm L ∧ (∀ t, n ≤ t → t < L.length → pn M t = pn L t) ∧ KeptQ b v W wr) (fun i _ => n + 1 - (intOf i).toNat)
  case atStart => exact ⟨0, L, Nat.zero_le _, rfl, rfl, HQ0.out, HU0.out, List.Perm.refl _, fun _ _ _ => rfl, KeptQ.refl _ _ _⟩
  case round =>
    obtain ⟨k, M, hk, hML, rfl, hq, hu, hp, htl, hkp⟩ := hrel
    have HQ := Lib.hid hq
    have HU := Lib.hid hu
    have HP := Lib.hid hp
    have HT := Lib.hid htl
    have HK := Lib.hid hkp
    have HKN := Lib.hid hk
    have hnM : n ≤ M.length := by rw [hML]; exact HN.out
    have HNM := Lib.hid hnM
    have HML := Lib.hid hML
    have r0 := wrapW (n := 2 * (k : Int)) (by omega)
    have r0' := wrapW' (n := 2 * (k : Int)) (by omega)
    have r1 := wrapW (n := 2 * (k : Int) + 1) (by omega)
    have r1' := wrapW' (n := 2 * (k : Int) + 1) (by omega)
    have r2 := wrapW (n := 2 * (k : Int) + 1 + 1) (by omega)
    have r2' := wrapW' (n := 2 * (k : Int) + 1 + 1) (by omega)
    clear hq hu hp hkp htl HQ0 HU0 hML
    by_cases h1 : (n : Int) ≤ 2 * (k : Int) + 1
    · have HE := Lib.hid (hqDn_end HU.out fun c c0 hc e => by have := childP c0 e; omega)
      clear hnM hk
      go_wp2
      go_ret
      exact ⟨_, M, rfl, HQ.out, HE.out, HP.out, HT.out, HML.out, HK.out⟩
    · have h0 : ¬ (2 * (k : Int) + 1 < 0) := by omega
      have hm1 := mLessP HQ.out
      obtain ⟨j1, hj1⟩ : ∃ j1, j1 = 2 * k + 1 := ⟨_, rfl⟩
      obtain ⟨j2, hj2⟩ : ∃ j2, j2 = 2 * k + 2 := ⟨_, rfl⟩
      have e1 : 2 * (k : Int) + 1 = (j1 : Int) := by omega
      have e2 : (j1 : Int) + 1 = (j2 : Int) := by omega
      rw [e1] at r1 r1' r2 r2' h0 h1
      rw [e2] at r2 r2'
      by_cases h2 : (j2 : Int) < (n : Int)
      · by_cases hc : cl M j2 < cl M j1
        · skip
          by_cases hl : cl M j2 < cl M k
          · skip
            have hjn : j2 < n := by omega
            have hmin : ∀ c, 0 < c → c < n → (c - 1) / 2 = k → cl M j2 ≤ cl M c := fun c c0 hc' e => by
              have hcc : c = j1 ∨ c = j2 := by have := childP c0 e; omega
              rcases hcc with rfl | rfl <;> omega
            have HL2 := Lib.hid (fun W h => less_isP W D v b cap M j2 k h (by omega) (by omega) true (decide_eq_true hl))
            have HS := Lib.hid (hqDn_step HU.out hnM (by omega) hjn (by omega) hmin hl)
            have HW := Lib.hid (fun W h => swap_isP W D v b cap M k j2 h (by omega) (by omega))
            have HE := Lib.hid (show (pwp M k j2).length = L.length by rw [pwp_length]; exact HML.out)
            have HF := Lib.hid ((pwp_perm (L := M) (i := k) (j := j2) (by omega) (by omega)).trans HP.out)
            have HT2 := Lib.hid (pwp_tail HML.out (i := k) (j := j2) (by omega) hjn HN.out HT.out)
            have HJ := Lib.hid hjn
            have HJ2 := Lib.hid (show k < j2 by omega)
            have HL1 := Lib.hid (less_isP wr D v b cap M j2 j1 HQ.out (by omega) (by omega) true (decide_eq_true hc))
            clear hc
            clear hl hmin hjn hnM hk hj1 hj2
            go_wp2_with (first | (go_at_call 100; ((with_reducible refine HL1.out.mono ?_); rintro e w1 ⟨rfl, q1, k1⟩; have Q1 := Lib.hid q1; have K1 := Lib.hid (HK.out.trans k1); have hm2 := mLessP q1; clear q1 k1)) | (go_at_call 100; ((with_reducible refine (HL2.out _ Q1.out).mono ?_); rintro e w2 ⟨rfl, q2, k2⟩; have Q2 := Lib.hid q2; have K2 := Lib.hid (K1.out.trans k2); have hm3 := mSwapP q2; clear q2 k2)) | (go_at_call 101; ((with_reducible refine (HW.out _ Q2.out).mono ?_); rintro e w3 ⟨rfl, q3, k3⟩; have Q3 := Lib.hid q3; have K3 := Lib.hid (K2.out.trans k3); clear q3 k3)))
            go_roundw
            case rel =>
              have h9 := HJ.out
              exact ⟨j2, _, by omega, HE.out, rfl, Q3.out, HS.out, HF.out, HT2.out, K3.out⟩
            case measure => have h8 := HJ.out; have h9 := HJ2.out; simp [intOf]; omega
          · skip
            have hjn : j2 < n := by omega
            have hmin : ∀ c, 0 < c → c < n → (c - 1) / 2 = k → cl M j2 ≤ cl M c := fun c c0 hc' e => by
              have hcc : c = j1 ∨ c = j2 := by have := childP c0 e; omega
              rcases hcc with rfl | rfl <;> omega
            have HL2 := Lib.hid (fun W h => less_isP W D v b cap M j2 k h (by omega) (by omega) false (decide_eq_false hl))
            have HE := Lib.hid (hqDn_end HU.out fun c c0 hc' e => Int.le_trans (Int.not_lt.1 hl) (hmin c c0 hc' e))
            have HL1 := Lib.hid (less_isP wr D v b cap M j2 j1 HQ.out (by omega) (by omega) true (decide_eq_true hc))
            clear hc
            clear hl hmin hjn hnM hk hj1 hj2
            go_wp2_with (first | (go_at_call 100; ((with_reducible refine HL1.out.mono ?_); rintro e w1 ⟨rfl, q1, k1⟩; have Q1 := Lib.hid q1; have K1 := Lib.hid (HK.out.trans k1); have hm2 := mLessP q1; clear q1 k1)) | (go_at_call 100; ((with_reducible refine (HL2.out _ Q1.out).mono ?_); rintro e w2 ⟨rfl, q2, k2⟩; have Q2 := Lib.hid q2; have K2 := Lib.hid (K1.out.trans k2); clear q2 k2)))
            go_ret
            exact ⟨_, M, rfl, Q2.out, HE.out, HP.out, HT.out, HML.out, K2.out⟩
        · skip
          by_cases hl : cl M j1 < cl M k
          · skip
            have hjn : j1 < n := by omega
            have hmin : ∀ c, 0 < c → c < n → (c - 1) / 2 = k → cl M j1 ≤ cl M c := fun c c0 hc' e => by
              have hcc : c = j1 ∨ c = j2 := by have := childP c0 e; omega
              rcases hcc with rfl | rfl <;> omega
            have HL2 := Lib.hid (fun W h => less_isP W D v b cap M j1 k h (by omega) (by omega) true (decide_eq_true hl))
            have HS := Lib.hid (hqDn_step HU.out hnM (by omega) hjn (by omega) hmin hl)
            have HW := Lib.hid (fun W h => swap_isP W D v b cap M k j1 h (by omega) (by omega))
            have HE := Lib.hid (show (pwp M k j1).length = L.length by rw [pwp_length]; exact HML.out)
            have HF := Lib.hid ((pwp_perm (L := M) (i := k) (j := j1) (by omega) (by omega)).trans HP.out)
            have HT2 := Lib.hid (pwp_tail HML.out (i := k) (j := j1) (by omega) hjn HN.out HT.out)
            have HJ := Lib.hid hjn
            have HJ2 := Lib.hid (show k < j1 by omega)
            have HL1 := Lib.hid (less_isP wr D v b cap M j2 j1 HQ.out (by omega) (by omega) false (decide_eq_false hc))
            clear hc
            clear hl hmin hjn hnM hk hj1 hj2
            go_wp2_with (first | (go_at_call 100; ((with_reducible refine HL1.out.mono ?_); rintro e w1 ⟨rfl, q1, k1⟩; have Q1 := Lib.hid q1; have K1 := Lib.hid (HK.out.trans k1); have hm2 := mLessP q1; clear q1 k1)) | (go_at_call 100; ((with_reducible refine (HL2.out _ Q1.out).mono ?_); rintro e w2 ⟨rfl, q2, k2⟩; have Q2 := Lib.hid q2; have K2 := Lib.hid (K1.out.trans k2); have hm3 := mSwapP q2; clear q2 k2)) | (go_at_call 101; ((with_reducible refine (HW.out _ Q2.out).mono ?_); rintro e w3 ⟨rfl, q3, k3⟩; have Q3 := Lib.hid q3; have K3 := Lib.hid (K2.out.trans k3); clear q3 k3)))
            go_roundw
            case rel =>
              have h9 := HJ.out
              exact ⟨j1, _, by omega, HE.out, rfl, Q3.out, HS.out, HF.out, HT2.out, K3.out⟩
            case measure => have h8 := HJ.out; have h9 := HJ2.out; simp [intOf]; omega
          · skip
            have hjn : j1 < n := by omega
            have hmin : ∀ c, 0 < c → c < n → (c - 1) / 2 = k → cl M j1 ≤ cl M c := fun c c0 hc' e => by
              have hcc : c = j1 ∨ c = j2 := by have := childP c0 e; omega
              rcases hcc with rfl | rfl <;> omega
            have HL2 := Lib.hid (fun W h => less_isP W D v b cap M j1 k h (by omega) (by omega) false (decide_eq_false hl))
            have HE := Lib.hid (hqDn_end HU.out fun c c0 hc' e => Int.le_trans (Int.not_lt.1 hl) (hmin c c0 hc' e))
            have HL1 := Lib.hid (less_isP wr D v b cap M j2 j1 HQ.out (by omega) (by omega) false (decide_eq_false hc))
            clear hc
            clear hl hmin hjn hnM hk hj1 hj2
            go_wp2_with (first | (go_at_call 100; ((with_reducible refine HL1.out.mono ?_); rintro e w1 ⟨rfl, q1, k1⟩; have Q1 := Lib.hid q1; have K1 := Lib.hid (HK.out.trans k1); have hm2 := mLessP q1; clear q1 k1)) | (go_at_call 100; ((with_reducible refine (HL2.out _ Q1.out).mono ?_); rintro e w2 ⟨rfl, q2, k2⟩; have Q2 := Lib.hid q2; have K2 := Lib.hid (K1.out.trans k2); clear q2 k2)))
            go_ret
            exact ⟨_, M, rfl, Q2.out, HE.out, HP.out, HT.out, HML.out, K2.out⟩
      · skip
        by_cases hl : cl M j1 < cl M k
        · skip
          have hjn : j1 < n := by omega
          have hmin : ∀ c, 0 < c → c < n → (c - 1) / 2 = k → cl M j1 ≤ cl M c := fun c c0 hc' e => by
            obtain rfl : c = j1 := by have := childP c0 e; omega
            exact Int.le_refl _
          have HL2 := Lib.hid (fun W h => less_isP W D v b cap M j1 k h (by omega) (by omega) true (decide_eq_true hl))
          have HS := Lib.hid (hqDn_step HU.out hnM (by omega) hjn (by omega) hmin hl)
          have HW := Lib.hid (fun W h => swap_isP W D v b cap M k j1 h (by omega) (by omega))
          have HE := Lib.hid (show (pwp M k j1).length = L.length by rw [pwp_length]; exact HML.out)
          have HF := Lib.hid ((pwp_perm (L := M) (i := k) (j := j1) (by omega) (by omega)).trans HP.out)
          have HT2 := Lib.hid (pwp_tail HML.out (i := k) (j := j1) (by omega) hjn HN.out HT.out)
          have HJ := Lib.hid hjn
          have HJ2 := Lib.hid (show k < j1 by omega)
          clear hl hmin hjn hnM hk hj1 hj2
          have Q1 := HQ
          have K1 := HK
          go_wp2_with (first | (go_at_call 100; ((with_reducible refine (HL2.out _ Q1.out).mono ?_); rintro e w2 ⟨rfl, q2, k2⟩; have Q2 := Lib.hid q2; have K2 := Lib.hid (K1.out.trans k2); have hm3 := mSwapP q2; clear q2 k2)) | (go_at_call 101; ((with_reducible refine (HW.out _ Q2.out).mono ?_); rintro e w3 ⟨rfl, q3, k3⟩; have Q3 := Lib.hid q3; have K3 := Lib.hid (K2.out.trans k3); clear q3 k3)))
          go_roundw
          case rel =>
            have h9 := HJ.out
            exact ⟨j1, _, by omega, HE.out, rfl, Q3.out, HS.out, HF.out, HT2.out, K3.out⟩
          case measure => have h8 := HJ.out; have h9 := HJ2.out; simp [intOf]; omega
        · skip
          have hjn : j1 < n := by omega
          have hmin : ∀ c, 0 < c → c < n → (c - 1) / 2 = k → cl M j1 ≤ cl M c := fun c c0 hc' e => by
            obtain rfl : c = j1 := by have := childP c0 e; omega
            exact Int.le_refl _
          have HL2 := Lib.hid (fun W h => less_isP W D v b cap M j1 k h (by omega) (by omega) false (decide_eq_false hl))
          have HE := Lib.hid (hqDn_end HU.out fun c c0 hc' e => Int.le_trans (Int.not_lt.1 hl) (hmin c c0 hc' e))
          clear hl hmin hjn hnM hk hj1 hj2
          have Q1 := HQ
          have K1 := HK
          go_wp2_with (first | (go_at_call 100; ((with_reducible refine (HL2.out _ Q1.out).mono ?_); rintro e w2 ⟨rfl, q2, k2⟩; have Q2 := Lib.hid q2; have K2 := Lib.hid (K1.out.trans k2); clear q2 k2)))
          go_ret
          exact ⟨_, M, rfl, Q2.out, HE.out, HP.out, HT.out, HML.out, K2.out⟩

set_option maxRecDepth 10000 in
theorem len_isP (W : World) (D v b cap : Nat) (L : List Smp) (h : PV W D v b cap L) :
    Calls Try.prog 99 #[.slice (some ⟨b, 0, none⟩) L.length cap] W (PQPost W D v b cap L (.int .i64 (L.length : Int))) :=
  (pLen_any W b L.length cap).mono fun _ _ ⟨h1, h2⟩ => by
    subst h2
    exact ⟨h1, h, KeptQ.refl _ _ _⟩
/-- What Push leaves: one path more. -/
def PushPostP (W : World) (D v b : Nat) (L : List Smp) (y : Smp) (e : Ending) (w' : World) : Prop :=
  e = .returned (.tuple #[]) ∧ ∃ b' cap' M, PV w' D v b' cap' M ∧ Hq M M.length ∧ M.Perm (L ++ [y]) ∧ KeptQ b v W w' ∧ (b' = b ∨ W.heap.size ≤ b')
set_option maxRecDepth 10000 in
set_option maxHeartbeats 4000000 in
theorem push_anyP (W : World) (D v b cap : Nat) (L : List Smp) (y : Smp) (h : PV W D v b cap L) (hh : Hq L L.length) (hl : L.length < 1000) :
    Calls Try.prog 68 #[.iface 86 (.pointer (some ⟨v, 0, none⟩)), .iface 82 (ptV y)] W (PushPostP W D v b L y) := by
  have H1 := Lib.hid (pPush_any W D v b cap L y h hl)
  have HU := Lib.hid (hqUp_push hh y)
  have hL8 := h.len
  obtain ⟨M, hM⟩ : ∃ M, M = L ++ [y] := ⟨_, rfl⟩
  have hML : (M.length : Int) - 1 = (L.length : Int) := by rw [hM]; simp
  have HLM := Lib.hid (show L.length < M.length by rw [hM]; simp)
  have r1 := wrapW (n := (L.length : Int)) (by omega)
  have r1' := wrapW' (n := (L.length : Int)) (by omega)
  unfold PushPostP
  rw [← hM] at H1 HU ⊢
  obtain ⟨n, hn⟩ : ∃ n, n = L.length := ⟨_, rfl⟩
  rw [← hn] at hML HLM r1 r1' HU
  have hm0 := mPushP v
  generalize ptV y = yv at *
  clear h hh hl hM hn hL8
  go_enter Try.func68, Try.ntmps68
  go_wp2_with (first
    | (go_at_call 103; ((with_reducible refine H1.out.mono ?_); rintro e w1 ⟨rfl, b', cap', q1, k1, bb⟩; have Q1 := Lib.hid q1; have K1 := Lib.hid k1; have BB := Lib.hid bb; have hm1 := mLenP q1; clear q1 k1 bb))
    | (go_at_call 99; ((with_reducible refine (len_isP _ D v b' cap' M Q1.out).mono ?_); rintro e w2 ⟨rfl, q2, k2⟩; have Q2 := Lib.hid q2; have K2 := Lib.hid (K1.out.step k2 BB.out); clear q2 k2))
    | (go_at_call 76; ((with_reducible refine (up_anyP _ D v b' cap' M Q2.out n HLM.out HU.out).mono ?_); rintro e w3 ⟨rfl, M3, q3, hp3, pm3, k3⟩; have HF := Lib.hid (And.intro q3 (And.intro hp3 (And.intro pm3 (And.intro (K2.out.step k3 BB.out) BB.out)))); clear q3 hp3 pm3 k3)))
  go_end0
  exact ⟨rfl, _, _, M3, HF.out⟩
/-- What Pop leaves: a least path is gone. -/
def PopPostP (W : World) (D v b cap n : Nat) (L : List Smp) (e : Ending) (w' : World) : Prop :=
  e = .returned (.iface 82 (ptV (pn L 0))) ∧ ∃ M, PV w' D v b cap M ∧ Hq M M.length ∧ L.Perm (M ++ [pn L 0]) ∧ M.length = n ∧ KeptQ b v W w'
set_option maxRecDepth 10000 in
set_option maxHeartbeats 4000000 in
theorem pop_anyP (W : World) (D v b cap n : Nat) (L : List Smp) (h : PV W D v b cap L) (hh : Hq L L.length) (hn : L.length = n + 1) :
    Calls Try.prog 67 #[.iface 86 (.pointer (some ⟨v, 0, none⟩))] W (PopPostP W D v b cap n L) := by
  have HQ := Lib.hid h
  have HN := Lib.hid hn
  have HD := Lib.hid (hqDn_pop hh hn)
  have hn8 : n ≤ 1000 := by have := h.len; omega
  obtain ⟨S, hS⟩ : ∃ S, S = pwp L 0 n := ⟨_, rfl⟩
  have H2 := Lib.hid (show ∀ W, PV W D v b cap L → Calls Try.prog 101 #[.slice (some ⟨b, 0, none⟩) L.length cap, .int .i64 0, .int .i64 (n : Int)] W (PQPost W D v b cap (pwp L 0 n) (.tuple #[])) from fun W h => swap_isP W D v b cap L 0 n h (by omega) (by omega))
  have hSl : S.length = n + 1 := by rw [hS, pwp_length, hn]
  have hSn : pn S n = pn L 0 := by rw [hS, pn_pwp (by omega) (by omega) n (by omega), if_pos rfl]
  have hSp : S.Perm L := by rw [hS]; exact pwp_perm (by omega) (by omega)
  rw [← hS] at HD H2
  have HS := Lib.hid (And.intro hSl (And.intro hSn hSp))
  have hL1 : (L.length : Int) - 1 = (n : Int) := by omega
  have r1 := wrapW (n := (n : Int)) (by omega)
  have r1' := wrapW' (n := (n : Int)) (by omega)
  have hm0 := mLenP h
  have hm9 := mPopP v
  clear h hh hn hS hSl hSn hSp
  go_enter Try.func67, Try.ntmps67
  go_wp2_with (first
    | (go_at_call 99; ((with_reducible refine (len_isP _ D v b cap L HQ.out).mono ?_); rintro e w1 ⟨rfl, q1, k1⟩; have Q1 := Lib.hid q1; have K1 := Lib.hid k1; have hm1 := mSwapP q1; clear q1 k1))
    | (go_at_call 101; ((with_reducible refine (H2.out _ Q1.out).mono ?_); rintro e w2 ⟨rfl, q2, k2⟩; have Q2 := Lib.hid q2; have K2 := Lib.hid (K1.out.trans k2); clear q2 k2))
    | (go_at_call 75; ((with_reducible refine (down_anyP _ D v b cap S Q2.out n (by have := HS.out.1; omega) HD.out).mono ?_); rintro e w3 ⟨rb, M3, rfl, q3, hp3, pm3, tl3, hl3, k3⟩; have Q3 := Lib.hid q3; have K3 := Lib.hid (K2.out.trans k3); have HF := Lib.hid (And.intro hp3 (And.intro pm3 (And.intro tl3 hl3))); clear q3 hp3 pm3 tl3 hl3 k3))
    | (go_at_call 102; ((with_reducible refine (pPop_any _ D v b cap M3 Q3.out n (by have h1 := HF.out.2.2.2; have h2 := HS.out.1; omega)).mono ?_); rintro e w4 ⟨rfl, q4, k4⟩; have Q4 := Lib.hid q4; have K4 := Lib.hid (K3.out.trans k4); clear q4 k4)))
  go_ret
  obtain ⟨h1, h2, h3, h4⟩ := HF.out
  obtain ⟨g1, g2, g3⟩ := HS.out
  have hl : M3.length = n + 1 := by omega
  have e1 : pn M3 n = pn L 0 := by rw [h3 n (Nat.le_refl _) (by omega), g2]
  refine ⟨by rw [e1]; rfl, M3.take n, Q4.out, hq_take h1 (by omega), ?_, by rw [List.length_take]; omega, K4.out⟩
  rw [← e1, ← take_lastP hl]
  exact (h2.trans g3).symm
end Go.Proofs.Ytnmhiagnmfpipaa
