/-
  Appending one number to a slice that the call itself made. Condition: fewer than 2^40 numbers.
-/
import Derived.Test.YtnmhiagnmfpipaaBase
import Derived.Deep.RegionLaw
import Derived.OwnWalk
namespace Go.Proofs.Ytnmhiagnmfpipaa
open Go.RowKit

/-- The slice value (address a, n elements, room for cap) is the call's own, from block `base` on, and holds xs. -/
def Grow (k : IntKind) (t : TypeId) (w : World) (base : Nat) (a : Option Addr) (n cap : Nat) (xs : List Int) : Prop :=
  w.ownsRow base t 1 (.slice a n cap) n (xs.map (Value.int k))
section
variable {k : IntKind} {t : TypeId} {w w' : World} {base n cap : Nat} {a : Option Addr} {xs : List Int}
theorem Grow.len (h : Grow k t w base a n cap xs) : xs.length = n := by simpa using h.1
theorem Grow.own (h : Grow k t w base a n cap xs) : ∀ b, Value.ownBlock (.slice a n cap) = some b → base ≤ b := by
  intro b hb
  rcases h.2 with ⟨e, _⟩ | ⟨g, c, cur, e, hg, _⟩
  · rw [e] at hb; simp [Value.ownBlock] at hb
  · rw [e] at hb; simp [Value.ownBlock] at hb; omega
theorem Grow.drewN (h : Grow k t w base a n cap xs) (m : Nat) : Grow k t (w.drewN m) base a n cap xs := h
theorem Grow.drew (h : Grow k t w base a n cap xs) : Grow k t w.drew base a n cap xs := h
theorem Grow.row (h : Grow k t w base a n cap xs) (hp : 0 < n) : ∃ b f, a = some ⟨b, 0, none⟩ ∧ base ≤ b ∧ b < w.heap.size ∧ n ≤ cap ∧ w.rowIs b t cap f ∧ ∀ i, i < n → f i = .int k (el xs i) := by
  rcases h.2 with ⟨_, h0⟩ | ⟨g, c, cur, e, hg, hh, hnc, hcm, hcs, htk⟩
  · omega
  · injection e with e1 e2 e3
    subst e1 e3
    have hlen := h.len
    rw [Nat.mul_one] at hcs htk
    refine ⟨g, fun i => cur.getD i undef, rfl, hg, (Array.getElem?_eq_some_iff.1 hh).1, hnc, ⟨cur, hh, hcs, fun i hi => ?_⟩, fun i hi => ?_⟩
    · simp [show i < cur.size by omega]
    · have h1 : (cur.toList.take n)[i]? = (xs.map (Value.int k))[i]? := by rw [htk]
      rw [List.getElem?_take, if_pos hi] at h1
      have hic : i < cur.size := by omega
      have hix : i < xs.length := by omega
      simp [hic, hix] at h1
      simp [hic, h1, el, hix]
theorem Grow.ints (h : Grow k t w base a n cap xs) : Ints k w w.heap.size a xs := fun hne => by
  have hlen := h.len
  have hp : 0 < n := by rw [← hlen]; exact List.length_pos_iff.2 hne
  obtain ⟨b, f, rfl, _, hb, hc, hr, hf⟩ := h.row hp
  exact ⟨b, 0, rfl, hb, fun i hi => by rw [Nat.zero_add, hr.cell (by omega), hf i (by omega)]⟩
theorem Grow.keep (h : Grow k t w base a n cap xs) (hk : ∀ b, base ≤ b → b < w.heap.size → w'.heap[b]? = w.heap[b]?) : Grow k t w' base a n cap xs := by
  refine ⟨h.1, ?_⟩
  rcases h.2 with h0 | ⟨g, c, cur, e, hg, hh, rest⟩
  · exact .inl h0
  · exact .inr ⟨g, c, cur, e, hg, (hk g hg (Array.getElem?_eq_some_iff.1 hh).1).trans hh, rest⟩
theorem Grow.alloc (h : Grow k t w base a n cap xs) (o : Obj) : Grow k t (w.alloc o) base a n cap xs := h.keep fun b _ hb => Below.heap_alloc w o b hb
theorem Grow.below (h : Grow k t w base a n cap xs) (hb : Below w.heap.size w w') : Grow k t w' base a n cap xs := h.keep fun b _ hlt => hb.block b hlt
theorem Grow.base_le {base' : Nat} (h : Grow k t w base a n cap xs) (hb : base' ≤ base) : Grow k t w base' a n cap xs := by
  refine ⟨h.1, ?_⟩
  rcases h.2 with h0 | ⟨g, c, cur, e, hg, rest⟩
  · exact .inl h0
  · exact .inr ⟨g, c, cur, e, Nat.le_trans hb hg, rest⟩
end
theorem Grow.nil (k : IntKind) (t : TypeId) (w : World) (base : Nat) : Grow k t w base none 0 0 [] := ⟨rfl, .inl ⟨rfl, rfl⟩⟩
theorem Grow.lit0 (k : IntKind) (t : TypeId) (w : World) (base : Nat) (hb : base ≤ w.heap.size) : Grow k t (w.alloc (.cells #[] t)) base (some ⟨w.heap.size, 0, none⟩) 0 0 [] :=
  ⟨rfl, .inr ⟨w.heap.size, 0, #[], rfl, hb, heap_alloc_last _ _, Nat.le_refl _, by simp, by simp, rfl⟩⟩

/-- What one append leaves. -/
theorem grow_of_own {k : IntKind} {t : TypeId} {w w' : World} {base n cap : Nat} {a : Option Addr} {xs : List Int} {x : Int} {v' : Value}
    (h : Grow k t w base a n cap xs) (hb : base ≤ w.heap.size) (h2 : w'.ownsRow base t 1 v' (n + 1) (xs.map (Value.int k) ++ [.int k x])) (h3 : w.grownBy w' (Value.ownBlock (.slice a n cap))) :
    ∃ a' cap', v' = .slice a' (n + 1) cap' ∧ Grow k t w' base a' (n + 1) cap' (xs ++ [x]) ∧ Below base w w' := by
  rcases h2.2 with ⟨_, h0⟩ | ⟨g, c, cur, e, _⟩
  · omega
  · subst e
    exact ⟨_, _, rfl, by simpa [Grow] using h2, (Below.refl _ _).grown h3 hb h.own⟩

section
variable {w : World} {ops : Array Oper} {rest : List Oper} {o : Oper} {a : Act} {Q : Exit → Act → World → Prop}
set_option maxRecDepth 10000 in
theorem wpList_append1 (s x : Operand) (base : Nat) (A : Option Addr) (n cap : Nat) (xs : List Int) (ad : Addr) (v : Int)
    (hgd : o.guard = none) (ho : o.op = .call { callee := .builtin .append, args := #[s, x], argTypes := #[27, 27] }) (hs : a.eval s = .slice A n cap) (hx : a.eval x = .slice (some ad) 1 1)
    (hg : Grow .i64 3 w base A n cap xs) (hc : w.cell? ad = some (.int .i64 v)) (hn : n < 1099511627776) (hb : base ≤ w.heap.size)
    (h : ∀ a' cap' w', Grow .i64 3 w' base a' (n + 1) cap' (xs ++ [v]) → Below base w w' → wpList Try.prog ops Q rest (a.put o.dst (.slice a' (n + 1) cap')) w') : wpList Try.prog ops Q (o :: rest) a w := by
  obtain ⟨i0, hi0, hz0, hz1, hz2⟩ := info_parts Try.infoInt
  refine wpList_append_own w hgd s x _ ho base 3 i0 (.int .i64 0) 1 8 Try.underlying27 hi0 hz0 hz1 hz2 rfl (by omega) _ n _ hs hg ad 1 1 [.int .i64 v] hx rfl ?_ (by simp [Value.oneCell']) (by unfold maxLen; omega) (by omega) hb ?_
  · intro j u hj
    match j, hj with
    | 0, hj => simp at hj; subst hj; simpa [Addr.add] using hc
  · intro v' w' h2 h3 _
    obtain ⟨a', cap', rfl, hgr, hbl⟩ := grow_of_own hg hb h2 h3
    exact h _ _ _ hgr hbl
set_option maxRecDepth 10000 in
theorem step_append1 {K : Act → World → Prop} {E : Prop} (s x : Operand) (base : Nat) (A : Option Addr) (n cap : Nat) (xs : List Int) (ad : Addr) (v : Int)
    (hgd : o.guard = none) (ho : o.op = .call { callee := .builtin .append, args := #[s, x], argTypes := #[27, 27] }) (hs : a.eval s = .slice A n cap) (hx : a.eval x = .slice (some ad) 1 1)
    (hg : Grow .i64 3 w base A n cap xs) (hc : w.cell? ad = some (.int .i64 v)) (hn : n < 1099511627776) (hb : base ≤ w.heap.size)
    (h : ∀ a' cap' w', Grow .i64 3 w' base a' (n + 1) cap' (xs ++ [v]) → Below base w w' → K (a.put o.dst (.slice a' (n + 1) cap')) w') : if Region.wanted o (yielded ops a.tmps) = true then Oper.wp Try.prog o a w K Q else E := by
  rw [if_pos (by simp [Region.wanted, hgd])]
  obtain ⟨i0, hi0, hz0, hz1, hz2⟩ := info_parts Try.infoInt
  refine wp_append_own w s x _ ho base 3 i0 (.int .i64 0) 1 8 Try.underlying27 hi0 hz0 hz1 hz2 rfl (by omega) _ n _ hs hg ad 1 1 [.int .i64 v] hx rfl ?_ (by simp [Value.oneCell']) (by unfold maxLen; omega) (by omega) hb ?_
  · intro j u hj
    match j, hj with
    | 0, hj => simp at hj; subst hj; simpa [Addr.add] using hc
  · intro v' w' h2 h3 _
    obtain ⟨a', cap', rfl, hgr, hbl⟩ := grow_of_own hg hb h2 h3
    exact h _ _ _ hgr hbl
end
end Go.Proofs.Ytnmhiagnmfpipaa
