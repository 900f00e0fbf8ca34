/-
  What drawing links leaves: rows in memory of their own, a list of rows that grows. No condition; plain lemmas.
-/
import Derived.Test.YtnmhiagnmfpipaaRowsI
import Derived.Test.YtnmhiagnmfpipaaDraws
import Derived.Lib.BufferOwn
namespace Go.Proofs.Ytnmhiagnmfpipaa
open Go.RowKit

/-- A list of rows in memory of its own. -/
def GrowV (w : World) (base : Nat) (a : Option Addr) (n cap : Nat) (vs : List Value) : Prop := w.ownsRow base 27 1 (.slice a n cap) n vs
section
variable {w w' : World} {base n cap : Nat} {a : Option Addr} {vs : List Value}
theorem GrowV.len (h : GrowV w base a n cap vs) : vs.length = n := by simpa using h.1
theorem GrowV.room (h : GrowV w base a n cap vs) : n ≤ cap ∧ cap ≤ maxLen := by
  rcases h.2 with ⟨e, h0⟩ | ⟨g, c, cur, e, hg, hh, hnc, hcm, _⟩
  · injection e with _ _ e
    subst e h0
    exact ⟨Nat.le_refl _, Nat.zero_le _⟩
  · injection e with _ _ e
    subst e
    exact ⟨hnc, hcm⟩
theorem GrowV.nil (w : World) (base : Nat) : GrowV w base none 0 0 [] := ⟨rfl, .inl ⟨rfl, rfl⟩⟩
set_option maxRecDepth 10000 in
theorem GrowV.lit0 (w : World) (base : Nat) (hb : base ≤ w.heap.size) : GrowV (w.alloc (.cells #[] 27)) base (some ⟨w.heap.size, 0, none⟩) 0 0 [] :=
  ⟨rfl, .inr ⟨w.heap.size, 0, #[], rfl, hb, heap_alloc_last _ _, Nat.le_refl _, by simp, by simp, rfl⟩⟩
set_option maxRecDepth 10000 in
/-- A row of rows, cell by cell; its block. -/
theorem GrowV.at_ (h : GrowV w base a n cap vs) (hp : 0 < n) : ∃ g cur, a = some ⟨g, 0, none⟩ ∧ base ≤ g ∧ w.heap[g]? = some (.cells cur 27 (0, 0)) ∧ ∀ i v, i < n → vs[i]? = some v → w.cell? ⟨g, i, none⟩ = some v := by
  rcases h.2 with ⟨_, h0⟩ | ⟨g, c, cur, e, hg, hh, hnc, hcm, hcs, htk⟩
  · omega
  · injection e with e1 e2 e3
    subst e1 e3
    rw [Nat.mul_one] at hcs htk
    refine ⟨g, cur, rfl, hg, hh, fun i v hi hv => ?_⟩
    rw [cell_of_row _ _ _ _ _ _ hh]
    have h1 : (cur.toList.take n)[i]? = vs[i]? := by rw [htk]
    rw [List.getElem?_take, if_pos hi, hv] at h1
    simpa using h1
set_option maxRecDepth 10000 in
theorem GrowV.typed {b : Nat} {c : Array Value} {t' : TypeId} {fr : Nat × Nat} (h : GrowV w base a n cap vs) (hg : w.grownBy w' (some b)) (hb : w.heap[b]? = some (.cells c t' fr)) (ht : t' ≠ 27) : GrowV w' base a n cap vs := by
  refine ⟨h.1, ?_⟩
  rcases h.2 with h0 | ⟨g, c2, cur, e, h1, hh, rest⟩
  · exact .inl h0
  · refine .inr ⟨g, c2, cur, e, h1, (hg.block g (Array.getElem?_eq_some_iff.1 hh).1 (fun e2 => ?_)).trans hh, rest⟩
    injection e2 with e2
    subst e2
    rw [hh] at hb
    injection hb with hb
    injection hb with _ hb _
    exact ht hb.symm
theorem GrowV.next (h : GrowV w base a n cap vs) (hb : Below w.heap.size w w') : GrowV w' base a n cap vs := by
  refine ⟨h.1, ?_⟩
  rcases h.2 with h0 | ⟨g, c2, cur, e, h1, hh, rest⟩
  · exact .inl h0
  · exact .inr ⟨g, c2, cur, e, h1, (hb.block g (Array.getElem?_eq_some_iff.1 hh).1).trans hh, rest⟩
theorem Grow.typed {k : IntKind} {t t' : TypeId} {b : Nat} {xs : List Int} {c : Array Value} {fr : Nat × Nat} (h : Grow k t w base a n cap xs) (hg : w.grownBy w' (some b)) (hb : w.heap[b]? = some (.cells c t' fr)) (ht : t' ≠ t) : Grow k t w' base a n cap xs := by
  refine ⟨h.1, ?_⟩
  rcases h.2 with h0 | ⟨g, c2, cur, e, h1, hh, rest⟩
  · exact .inl h0
  · refine .inr ⟨g, c2, cur, e, h1, (hg.block g (Array.getElem?_eq_some_iff.1 hh).1 (fun e2 => ?_)).trans hh, rest⟩
    injection e2 with e2
    subst e2
    rw [hh] at hb
    injection hb with hb
    injection hb with _ hb _
    exact ht hb.symm
theorem Grow.other {k : IntKind} {t : TypeId} {b g : Nat} {xs : List Int} (h : Grow k t w base (some ⟨g, 0, none⟩) n cap xs) (hg : w.grownBy w' (some b)) (hne : g ≠ b) : Grow k t w' base (some ⟨g, 0, none⟩) n cap xs :=
  World.ownsRow.kept h hg (.inr (fun e => hne (by simp [Value.ownBlock] at e; exact e)))
theorem GrowV.base_le {base' : Nat} (h : GrowV w base a n cap vs) (hb : base' ≤ base) : GrowV w base' a n cap vs := by
  refine ⟨h.1, ?_⟩
  rcases h.2 with h0 | ⟨g, c, cur, e, hg, rest⟩
  · exact .inl h0
  · exact .inr ⟨g, c, cur, e, Nat.le_trans hb hg, rest⟩
set_option maxRecDepth 10000 in
/-- An append to the list of rows leaves what is of another type. -/
theorem GrowV.leaves (h : GrowV w base a n cap vs) (hg : w.grownBy w' (Value.ownBlock (.slice a n cap))) {j : Nat} {c : Array Value} {t : TypeId} {fr : Nat × Nat} (hj : w.heap[j]? = some (.cells c t fr)) (ht : t ≠ 27) : w'.heap[j]? = w.heap[j]? := by
  refine hg.block j (Array.getElem?_eq_some_iff.1 hj).1 fun e => ?_
  rcases h.2 with ⟨h0, _⟩ | ⟨g, c2, cur, h0, h1, hh, rest⟩
  · rw [h0] at e; simp [Value.ownBlock] at e
  · rw [h0] at e
    simp [Value.ownBlock] at e
    subst e
    rw [hh] at hj
    injection hj with hj
    injection hj with _ hj _
    exact ht hj.symm
theorem GrowV.keepsBelow (h : GrowV w base a n cap vs) (hg : w.grownBy w' (Value.ownBlock (.slice a n cap))) (hb : base ≤ w.heap.size) : Below base w w' :=
  (Below.refl _ _).grown hg hb fun k hk => by
    rcases h.2 with ⟨h0, _⟩ | ⟨g, c2, cur, h0, h1, _⟩
    · rw [h0] at hk; simp [Value.ownBlock] at hk
    · rw [h0] at hk
      simp [Value.ownBlock] at hk
      omega
theorem Grow.leaves {k : IntKind} {t : TypeId} {base : Nat} {xs : List Int} (h : Grow k t w base a n cap xs) (hk : ∀ (j : Nat) (c : Array Value) (fr : Nat × Nat), w.heap[j]? = some (Obj.cells c t fr) → w'.heap[j]? = w.heap[j]?) : Grow k t w' base a n cap xs := by
  refine ⟨h.1, ?_⟩
  rcases h.2 with h0 | ⟨g, c2, cur, e, h1, hh, rest⟩
  · exact .inl h0
  · exact .inr ⟨g, c2, cur, e, h1, (hk g _ _ hh).trans hh, rest⟩
end
/-- Each of the values is a row of its own, block blk i. -/
def RowsV (W : World) (vs : List Value) (R : List (List Int)) (blk : Nat → Nat) : Prop :=
  ∀ i, i < R.length → ∃ cap, vs[i]? = some (.slice (some ⟨blk i, 0, none⟩) (rwI R i).length cap) ∧ Grow .i64 3 W 0 (some ⟨blk i, 0, none⟩) (rwI R i).length cap (rwI R i)
/-- Drawn rows: a list of rows. -/
def DRows (W : World) (a : Option Addr) (c : Nat) (R : List (List Int)) : Prop := ∃ vs blk, GrowV W 0 a R.length c vs ∧ RowsV W vs R blk
section
variable {W W' : World} {a : Option Addr} {c : Nat} {R : List (List Int)} {vs : List Value} {blk : Nat → Nat}
set_option maxRecDepth 10000 in
theorem RowsV.typed {b : Nat} {x : Array Value} {t' : TypeId} {fr : Nat × Nat} (h : RowsV W vs R blk) (hg : W.grownBy W' (some b)) (hb : W.heap[b]? = some (.cells x t' fr)) (ht : t' ≠ 3) : RowsV W' vs R blk := fun i hi => by
  obtain ⟨cap, h1, h2⟩ := h i hi
  exact ⟨cap, h1, h2.typed hg hb ht⟩
theorem RowsV.next (h : RowsV W vs R blk) (hb : Below W.heap.size W W') : RowsV W' vs R blk := fun i hi => by
  obtain ⟨cap, h1, h2⟩ := h i hi
  exact ⟨cap, h1, h2.below hb⟩
theorem DRows.rows (h : DRows W a c R) : RowsL W W.heap.size a R := fun hne => by
  obtain ⟨vs, blk, h1, h2⟩ := h
  have hp : 0 < R.length := List.length_pos_iff.2 hne
  obtain ⟨g, cur, rfl, _, hh, hc⟩ := h1.at_ hp
  refine ⟨g, 0, rfl, (Array.getElem?_eq_some_iff.1 hh).1, fun i hi => ?_⟩
  obtain ⟨cap, h3, h4⟩ := h2 i hi
  rw [Nat.zero_add]
  exact ⟨_, cap, hc i _ hi h3, h4.room.1, h4.room.2, h4.ints⟩
theorem DRows.room (h : DRows W a c R) : R.length ≤ c ∧ c ≤ maxLen := by
  obtain ⟨vs, blk, h1, h2⟩ := h
  exact h1.room
set_option maxRecDepth 10000 in
theorem DRows.typed {b : Nat} {x : Array Value} {t' : TypeId} {fr : Nat × Nat} (h : DRows W a c R) (hg : W.grownBy W' (some b)) (hb : W.heap[b]? = some (.cells x t' fr)) (ht : t' ≠ 3) (ht2 : t' ≠ 27) : DRows W' a c R := by
  obtain ⟨vs, blk, h1, h2⟩ := h
  exact ⟨vs, blk, h1.typed hg hb ht2, h2.typed hg hb ht⟩
theorem DRows.next (h : DRows W a c R) (hb : Below W.heap.size W W') : DRows W' a c R := by
  obtain ⟨vs, blk, h1, h2⟩ := h
  exact ⟨vs, blk, h1.next hb, h2.next hb⟩
end
set_option maxRecDepth 10000 in
theorem Rd.obj {w : World} {R p : Nat} (h : Rd w R p) : ∃ c, w.heap[R]? = some (.cells c 70 (0, 0)) := by
  obtain ⟨ba, bn, bc, ds, h1, _⟩ := h
  exact ⟨_, h1⟩
/-- Drawn rows, and the reader went on. -/
theorem DRows.read {W W' : World} {a : Option Addr} {c : Nat} {R : List (List Int)} {r p : Nat} (h : DRows W a c R) (hg : W.grownBy W' (some r)) (hr : Rd W r p) : DRows W' a c R := by
  obtain ⟨x, hx⟩ := hr.obj
  exact h.typed hg hx (by decide) (by decide)
set_option maxRecDepth 10000 in
theorem Try.infoRowD : (Try.prog.info? 27).map (fun i => (i.zero, i.size, i.bytes)) = some (some (.slice none 0 0), 1, 24) := by kernel_rfl
section
variable {w : World} {ops : Array Oper} {rest : List Oper} {o : Oper} {a : Act} {Q : Exit → Act → World → Prop}
set_option maxRecDepth 10000 in
theorem wpList_appendV (s x : Operand) (base : Nat) (A : Option Addr) (n cap : Nat) (vs : List Value) (ad : Addr) (a1 : Option Addr) (n1 c1 : Nat)
    (hgd : o.guard = none) (ho : o.op = .call { callee := .builtin .append, args := #[s, x], argTypes := #[23, 23] }) (hs : a.eval s = .slice A n cap) (hx : a.eval x = .slice (some ad) 1 1)
    (hg : GrowV w base A n cap vs) (hc : w.cell? ad = some (.slice a1 n1 c1)) (hn : n < 1048576) (hb : base ≤ w.heap.size)
    (h : ∀ a' cap' w', GrowV w' base a' (n + 1) cap' (vs ++ [.slice a1 n1 c1]) → w.grownBy w' (Value.ownBlock (.slice A n cap)) → wpList Try.prog ops Q rest (a.put o.dst (.slice a' (n + 1) cap')) w') : wpList Try.prog ops Q (o :: rest) a w := by
  obtain ⟨i0, hi0, hz0, hz1, hz2⟩ := info_parts Try.infoRowD
  refine wpList_append_own w hgd s x _ ho base 27 i0 (.slice none 0 0) 1 24 Try.underlying23 hi0 hz0 hz1 hz2 rfl (by omega) _ n _ hs hg ad 1 1 [.slice a1 n1 c1] hx rfl ?_ (by simp [Value.oneCell']) (by unfold maxLen; omega) (by omega) hb ?_
  · intro j u hj
    match j, hj with
    | 0, hj => simp at hj; subst hj; simpa [Addr.add] using hc
  · intro v' w' h2 h3 _
    rcases h2.2 with ⟨_, h0⟩ | ⟨g, c, cur, e, _⟩
    · omega
    · subst e
      exact h _ _ _ h2 h3
end
end Go.Proofs.Ytnmhiagnmfpipaa
