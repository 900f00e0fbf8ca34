/-
  How the laws draw two lists of bits, and what the small tests of the laws answer. Condition: the code has at most 2^20 bytes.
-/
import Derived.Test.YtflplihhakepfaaDoorDraw2
namespace Go.Proofs.YtflplihhakepfaaDoor
open Go.RowKit

section
variable {w : World} {ops : Array Oper} {rest : List Oper} {o : Oper} {a : Act} {Q : Exit → Act → World → Prop}
theorem wpList_appendS (s x : Operand) (base : Nat) (A : Option Addr) (n cap : Nat) (xs ys : List Int) (ad : Addr) (m c B : Nat)
    (hgd : o.guard = none) (ho : o.op = .call { callee := .builtin .append, args := #[s, x], argTypes := #[23, 23] }) (hs : a.eval s = .slice A n cap) (hx : a.eval x = .slice (some ad) m c)
    (hg : Grow .i64 3 w base A n cap xs) (hy : Ints .i64 w B (some ad) ys) (hm : ys.length = m) (hn : n + m < 1099511627776) (hb : base ≤ w.heap.size)
    (h : ∀ a' cap' w', Grow .i64 3 w' base a' (n + m) cap' (xs ++ ys) → Below base w w' → a' ≠ none ∨ A = none → wpList Tryd.prog ops Q rest (a.put o.dst (.slice a' (n + m) cap')) w') : wpList Tryd.prog ops Q (o :: rest) a w := by
  obtain ⟨i0, hi0, hz0, hz1, hz2⟩ := info_parts Tryd.infoInt
  refine wpList_append_own w hgd s x _ ho base 3 i0 (.int .i64 0) 1 8 Tryd.underlying23 hi0 hz0 hz1 hz2 rfl (by omega) _ n _ hs hg ad m c (ys.map (Value.int .i64)) hx (by simp [hm]) ?_ (ints_oneCell _ _) (by unfold maxLen; omega) (by omega) hb ?_
  · intro j u hj
    have hjl : j < ys.length := by have := (List.getElem?_eq_some_iff.1 hj).1; simpa using this
    obtain ⟨b, off, e, _, hc⟩ := hy.at_ hjl
    injection e with e
    subst e
    have hadd : (⟨b, off, none⟩ : Addr).add j = ⟨b, off + j, none⟩ := by unfold Addr.add; split <;> simp_all
    rw [hadd, hc]
    simp [hjl] at hj
    rw [← hj, el_lt hjl]
  · intro v' w' h2 h3 h4
    have hlen : (xs.map (Value.int .i64) ++ ys.map (Value.int .i64)) = (xs ++ ys).map (Value.int .i64) := by simp
    rw [hlen] at h2
    have hsh : ∃ a' cap', v' = .slice a' (n + m) cap' := by
      rcases h2.2 with ⟨e, h0⟩ | ⟨g, c', cur, e, _⟩
      · exact ⟨none, 0, by rw [e, h0]⟩
      · exact ⟨_, _, e⟩
    obtain ⟨a', cap', rfl⟩ := hsh
    refine h a' cap' w' h2 ((Below.refl _ _).grown h3 hb hg.own) ?_
    by_cases hA : A = none
    · exact .inr hA
    · refine .inl fun e => ?_
      subst e
      rcases h2.2 with ⟨e, h0⟩ | ⟨g, c', cur, e, _⟩
      · have := (h4.1 e).1
        injection this with e1
        exact hA e1
      · injection e with e1; cases e1
end
theorem Grow.set {k : IntKind} {t : TypeId} {w : World} {base n cap b : Nat} {xs : List Int} (h : Grow k t w base (some ⟨b, 0, none⟩) n cap xs) (j : Nat) (v : Int) :
    Grow k t (w.setCell ⟨b, j, none⟩ (.int k v)) base (some ⟨b, 0, none⟩) n cap (xs.set j v) := by
  have := World.ownsRow.stored h j (.int k v)
  rw [← List.map_set] at this
  exact this.1
theorem Grow.addr0 {k : IntKind} {t : TypeId} {w : World} {base n cap : Nat} {a : Option Addr} {xs : List Int} (h : Grow k t w base a n cap xs) (hne : a ≠ none) : ∃ b, a = some ⟨b, 0, none⟩ ∧ base ≤ b := by
  rcases h.2 with ⟨e, _⟩ | ⟨g, c, cur, e, hg, _⟩
  · injection e with e1; exact absurd e1 hne
  · injection e with e1; exact ⟨g, e1, hg⟩
theorem small_set {xs : List Int} {x : Int} {j : Nat} (h : ∀ y ∈ xs, small y) (hx : small x) : ∀ y ∈ xs.set j x, small y := fun y hy => by
  rcases List.mem_or_eq_of_mem_set hy with hy | rfl
  · exact h y hy
  · exact hx

/-- Two drawn lists; only the reader was written besides. -/
def TwinPost (R most : Nat) (w : World) (e : Ending) (w' : World) : Prop :=
  ∃ xs ys a b c c', e = .returned (.tuple #[.slice a xs.length c, .slice b ys.length c']) ∧ xs.length ≤ most + 1 ∧ ys.length ≤ most + 1 ∧ (∀ x ∈ xs, small x) ∧ (∀ x ∈ ys, small x) ∧
    Ints .i64 w' w'.heap.size a xs ∧ Ints .i64 w' w'.heap.size b ys ∧ w.grownBy w' (some R)
def TwinRel (R p most n cap b : Nat) (w w1 : World) (k : Nat) (wr : World) : Prop :=
  ∃ ys p', (∀ x ∈ ys, small x) ∧ Grow .i64 3 wr w1.heap.size (some ⟨b, 0, none⟩) n cap ys ∧ Rd wr R p' ∧ p' ≤ p + 2 * most + 8 + 2 * k ∧ w.grownBy wr (some R) ∧ (∀ j, j < w1.heap.size → j ≠ R → wr.heap[j]? = w1.heap[j]?)
theorem ints_other {k : IntKind} {w1 wr : World} {R B : Nat} {a : Option Addr} {xs : List Int} {base n cap t : Nat} (h : Grow k t w1 base a n cap xs) (hR : R < base) (hk : ∀ j, j < w1.heap.size → j ≠ R → wr.heap[j]? = w1.heap[j]?) (hB : w1.heap.size ≤ B) : Ints k wr B a xs := fun hne => by
  have hlen := h.len
  have hp : 0 < n := by rw [← hlen]; exact List.length_pos_iff.2 hne
  obtain ⟨b, f, rfl, h1, hb, hc, hr, hf⟩ := h.row hp
  exact ⟨b, 0, rfl, by omega, fun i hi => by rw [Nat.zero_add, (hr.of_block (hk b hb (by omega))).cell (by omega), hf i (by omega)]⟩

theorem twin_size {k : IntKind} {t : TypeId} {w : World} {base n cap b : Nat} {xs : List Int} (h : Grow k t w base (some ⟨b, 0, none⟩) n cap xs) (_hb : base ≤ b) : base ≤ w.heap.size := by
  rcases h.2 with ⟨e, _⟩ | ⟨g, c, cur, e, hg, hh, _⟩
  · injection e with e1; cases e1
  · have := (Array.getElem?_eq_some_iff.1 hh).1; omega
theorem twin_lt {k : IntKind} {t : TypeId} {w : World} {base n cap b m j : Nat} {xs : List Int} (h : Grow k t w base (some ⟨b, 0, none⟩) n cap xs) (_ : m < n) (hj : j < base) (hb : base ≤ b) : j < w.heap.size := by
  have := twin_size h hb; omega
theorem grow_cell {k : IntKind} {t : TypeId} {w : World} {base n cap b i : Nat} {xs : List Int} (h : Grow k t w base (some ⟨b, 0, none⟩) n cap xs) (hi : i < n) : (∃ u, w.cell? ⟨b, i, none⟩ = some (.int k u)) ∧ w.frozen? ⟨b, i, none⟩ = false := by
  obtain ⟨b', f, e, _, _, hc, hr, hf⟩ := h.row (by omega)
  injection e with e
  injection e with e
  subst e
  exact ⟨⟨_, by rw [hr.cell (by omega), hf i hi]⟩, hr.frozen i⟩
theorem twin_step {R p most n cap b : Nat} {w w1 w5 : World} {k p' : Nat} {ys : List Int} {v : Int} (hs : ∀ x ∈ ys, small x) (hg : Grow .i64 3 w5 w1.heap.size (some ⟨b, 0, none⟩) n cap ys) (hr : Rd w5 R p') (hp : p' ≤ p + 2 * most + 8 + 2 * (k + 1))
    (hn : w.grownBy w5 (some R)) (hk : ∀ j, j < w1.heap.size → j ≠ R → w5.heap[j]? = w1.heap[j]?) (hR : R < w.heap.size) (hw : w.heap.size ≤ w1.heap.size) (hb : w1.heap.size ≤ b) (hv : small v) :
    TwinRel R p most n cap b w w1 (k + 1) (w5.setCell ⟨b, k, none⟩ (.int .i64 v)) := by
  have hbel : Below w1.heap.size w5 (w5.setCell ⟨b, k, none⟩ (.int .i64 v)) := (Below.refl _ _).setCell hb _
  exact ⟨_, p', small_set hs hv, hg.set k v, hr.below hbel (by omega), hp, grown_below hn hbel hw, fun j hj hne => (hbel.block j hj).trans (hk j hj hne)⟩

end Go.Proofs.YtflplihhakepfaaDoor
