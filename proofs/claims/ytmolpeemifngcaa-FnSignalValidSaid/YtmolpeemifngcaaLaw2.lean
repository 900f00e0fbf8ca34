/-
  The law of BitsValid, walked: it returns true for every code, and writes into nothing that was there.
-/
import Derived.Test.YtmolpeemifngcaaLaw1
namespace Go.Proofs.Ytmolpeemifngcaa
open Go.RowKit

section
variable {w : World} {ops : Array Oper} {rest : List Oper} {o : Oper} {a : Act} {Q : Exit → Act → World → Prop}
theorem wpList_wanted {P : Program} (hw : Region.wanted o (yielded ops a.tmps) = true) (h : ∀ K : Act → World → Prop, (∀ a w, wpList P ops Q rest a w → K a w) → o.wp P a w K Q) : wpList P ops Q (o :: rest) a w :=
  wpList_step fun K hK => by rw [if_pos hw]; exact h K hK
theorem wpList_append1g (s x : Operand) (base : Nat) (A : Option Addr) (n cap : Nat) (xs : List Int) (ad : Addr) (v : Int)
    (hw : Region.wanted o (yielded ops a.tmps) = true) (ho : o.op = .call { callee := .builtin .append, args := #[s, x], argTypes := #[23, 23] }) (hs : a.eval s = .slice A n cap) (hx : a.eval x = .slice (some ad) 1 1)
    (hg : Grow .i64 3 w base A n cap xs) (hc : w.cell? ad = some (.int .i64 v)) (hn : n < 1099511627776) (hb : base ≤ w.heap.size)
    (h : ∀ a' cap' w', Grow .i64 3 w' base a' (n + 1) cap' (xs ++ [v]) → Below base w w' → wpList Try.prog ops Q rest (a.put o.dst (.slice a' (n + 1) cap')) w') : wpList Try.prog ops Q (o :: rest) a w := by
  refine wpList_wanted hw fun K hK => ?_
  obtain ⟨i0, hi0, hz0, hz1, hz2⟩ := info_parts Try.infoInt
  refine wp_append_own w s x _ ho base 3 i0 (.int .i64 0) 1 8 Try.underlying23 hi0 hz0 hz1 hz2 rfl (by omega) _ n _ hs hg ad 1 1 [.int .i64 v] hx rfl ?_ (by simp [Value.oneCell']) (by unfold maxLen; omega) (by omega) hb ?_
  · intro j u hj
    match j, hj with
    | 0, hj => simp at hj; subst hj; simpa [Addr.add] using hc
  · intro v' w' h2 h3 _
    obtain ⟨a', cap', rfl, hgr, hbl⟩ := grow_of_own hg hb h2 h3
    exact hK _ _ (h _ _ _ hgr hbl)
theorem wpList_appendSg (s x : Operand) (base : Nat) (A : Option Addr) (n cap : Nat) (xs ys : List Int) (ad : Addr) (m c B : Nat)
    (hw : Region.wanted o (yielded ops a.tmps) = true) (ho : o.op = .call { callee := .builtin .append, args := #[s, x], argTypes := #[23, 23] }) (hs : a.eval s = .slice A n cap) (hx : a.eval x = .slice (some ad) m c)
    (hg : Grow .i64 3 w base A n cap xs) (hy : Ints .i64 w B (some ad) ys) (hm : ys.length = m) (hn : n + m < 1099511627776) (hb : base ≤ w.heap.size)
    (h : ∀ a' cap' w', Grow .i64 3 w' base a' (n + m) cap' (xs ++ ys) → Below base w w' → a' ≠ none ∨ A = none → wpList Try.prog ops Q rest (a.put o.dst (.slice a' (n + m) cap')) w') : wpList Try.prog ops Q (o :: rest) a w := by
  refine wpList_wanted hw fun K hK => ?_
  obtain ⟨i0, hi0, hz0, hz1, hz2⟩ := info_parts Try.infoInt
  refine wp_append_own w s x _ ho base 3 i0 (.int .i64 0) 1 8 Try.underlying23 hi0 hz0 hz1 hz2 rfl (by omega) _ n _ hs hg ad m c (ys.map (Value.int .i64)) hx (by simp [hm]) ?_ (ints_oneCell _ _) (by unfold maxLen; omega) (by omega) hb ?_
  · intro j u hj
    have hjl : j < ys.length := by have := (List.getElem?_eq_some_iff.1 hj).1; simpa using this
    obtain ⟨b, off, e, _, hc⟩ := hy.at_ hjl
    injection e with e
    subst e
    have hadd : (⟨b, off, none⟩ : Addr).add j = ⟨b, off + j, none⟩ := by unfold Addr.add; split <;> simp_all
    rw [hadd, hc]
    simp [hjl] at hj
    rw [← hj, el_lt hjl]
  · intro v' w' h2 h3 h4
    have hlen : (xs.map (Value.int .i64) ++ ys.map (Value.int .i64)) = (xs ++ ys).map (Value.int .i64) := by simp
    rw [hlen] at h2
    have hsh : ∃ a' cap', v' = .slice a' (n + m) cap' := by
      rcases h2.2 with ⟨e, h0⟩ | ⟨g, c', cur, e, _⟩
      · exact ⟨none, 0, by rw [e, h0]⟩
      · exact ⟨_, _, e⟩
    obtain ⟨a', cap', rfl⟩ := hsh
    refine hK _ _ (h a' cap' w' h2 ((Below.refl _ _).grown h3 hb hg.own) ?_)
    by_cases hA : A = none
    · exact .inr hA
    · refine .inl fun e => ?_
      subst e
      rcases h2.2 with ⟨e, h0⟩ | ⟨g, c', cur, e, _⟩
      · have := (h4.1 e).1
        injection this with e1
        exact hA e1
      · injection e with e1; cases e1
end
def OnePost (w : World) (e : Ending) (w' : World) : Prop :=
  ∃ xs ad c, e = .returned (.slice (some ad) xs.length c) ∧ xs.length ≤ 1025 ∧ xs.length ≤ c ∧ Ints .i64 w' w'.heap.size (some ad) xs ∧ Below w.heap.size w w'
theorem Grow.cap_le {k : IntKind} {t : TypeId} {w : World} {base n cap : Nat} {a : Option Addr} {xs : List Int} (h : Grow k t w base a n cap xs) : n ≤ cap := by
  rcases h.2 with ⟨e, h0⟩ | ⟨g, c, cur, e, hg, hh, hnc, _⟩
  · omega
  · injection e with _ _ e3; omega
theorem bitsOk_take {xs : List Int} (h : bitsOk xs = true) (m : Nat) : bitsOk (xs.take m) = true := by
  simp only [bitsOk, Bool.and_eq_true, decide_eq_true_eq, List.all_eq_true] at h ⊢
  exact ⟨by simp; omega, fun x hx => h.2 x (List.mem_of_mem_take hx)⟩
theorem bitsOk_two (xs : List Int) : bitsOk (xs ++ [2]) = false := by
  simp [bitsOk, isBit]

end Go.Proofs.Ytmolpeemifngcaa
