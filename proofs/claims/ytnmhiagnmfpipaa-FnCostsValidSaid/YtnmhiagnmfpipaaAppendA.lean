/-
  Appending to a slice that the call itself made: a slice that may be nil, or some zeros. Condition: fewer than 2^40 numbers.
-/
import Derived.Test.YtnmhiagnmfpipaaDraws
import Derived.Test.YtnmhiagnmfpipaaLawMath
import Derived.Lib.AppendZerosOnto
namespace Go.Proofs.Ytnmhiagnmfpipaa
open Go.RowKit

/-- What an append leaves. -/
def AppPost (base : Nat) (A : Option Addr) (n : Nat) (xs : List Int) (w : World) (v : Value) (w' : World) : Prop :=
  ∃ a' cap', v = .slice a' n cap' ∧ Grow .i64 3 w' base a' n cap' xs ∧ Below base w w' ∧ (a' ≠ none ∨ A = none)
set_option maxRecDepth 10000 in
theorem run_appendA (w : World) (ty : TypeId) (base : Nat) (A src : Option Addr) (n cap m c B : Nat) (xs ys : List Int) (hg : Grow .i64 3 w base A n cap xs) (hy : Ints .i64 w B src ys) (hm : ys.length = m) (hn : n + m < 1099511627776) (hb : base ≤ w.heap.size) :
    ∃ v w', (Builtin.append_ #[27, 27] ty #[.slice A n cap, .slice src m c]).run Try.prog w = .ok v w' ∧ AppPost base A (n + m) (xs ++ ys) w v w' := by
  obtain ⟨i0, hi0, hz0, hz1, hz2⟩ := info_parts Try.infoInt
  cases src with
  | none =>
    have h0 : ys = [] := by
      rcases Classical.em (ys = []) with h | h
      · exact h
      · obtain ⟨_, _, e, _⟩ := hy h; cases e
    subst h0
    simp at hm
    subst hm
    refine ⟨.slice A n cap, w, ?_, A, cap, rfl, by simpa using hg, Below.refl _ _, ?_⟩
    · rcases hg.2 with ⟨e, rfl⟩ | ⟨g, cp, cur, e, _, _, hnc, _⟩
      · rw [e]
        simp [Builtin.append_, run_underlying Try.underlying27, sizeOf, typeInfo, hi0, Builtin.lenOf, Builtin.firstCells]
      · injection e with e1 e2 e3
        subst e1 e3
        simp [Builtin.append_, run_underlying Try.underlying27, sizeOf, typeInfo, hi0, Builtin.lenOf, Builtin.firstCells, hnc, storeCells]
    · cases A
      · exact .inr rfl
      · exact .inl (by simp)
  | some ad =>
    obtain ⟨v', w', hr, h2, h3, h4⟩ := run_append_own (P := Try.prog) w base 27 ty 3 i0 (.int .i64 0) 1 8 Try.underlying27 hi0 hz0 hz1 hz2 rfl (by omega) (.slice A n cap) n (xs.map (Value.int .i64)) hg ad m c (ys.map (Value.int .i64)) (by simp [hm])
      (fun j u hj => by
        have hjl : j < ys.length := by have := (List.getElem?_eq_some_iff.1 hj).1; simpa using this
        obtain ⟨b, off, e, _, hc⟩ := hy.at_ hjl
        injection e with e
        subst e
        have hadd : (⟨b, off, none⟩ : Addr).add j = ⟨b, off + j, none⟩ := by unfold Addr.add; split <;> simp_all
        rw [hadd, hc]
        simp [hjl] at hj
        rw [← hj, el_lt hjl]) (ints_oneCell _ _) (by unfold maxLen; omega) (by omega) hb
    refine ⟨v', w', hr, ?_⟩
    have hlen : (xs.map (Value.int .i64) ++ ys.map (Value.int .i64)) = (xs ++ ys).map (Value.int .i64) := by simp
    rw [hlen] at h2
    have hsh : ∃ a' cap', v' = .slice a' (n + m) cap' := by
      rcases h2.2 with ⟨e, h0⟩ | ⟨g, c', cur, e, _⟩
      · exact ⟨none, 0, by rw [e, h0]⟩
      · exact ⟨_, _, e⟩
    obtain ⟨a', cap', rfl⟩ := hsh
    refine ⟨a', cap', rfl, h2, (Below.refl _ _).grown h3 hb hg.own, ?_⟩
    cases a' with
    | some _ => exact .inl (by simp)
    | none =>
      rcases h2.2 with ⟨e, h0⟩ | ⟨g, c', cur, e, _⟩
      · injection e with _ _ e3
        have := (h4.1 (by rw [h0, e3])).1
        injection this with e1
        exact .inr e1
      · injection e with e1; cases e1

theorem zeroCells_int (k : Nat) : (Builtin.zeroCells #[Value.int .i64 0] k).toList = (zeros k).map (Value.int .i64) := by
  apply List.ext_getElem
  · simp [Builtin.zeroCells, zeros]
  · intro i h1 h2
    simp [Builtin.zeroCells, zeros, Nat.mod_one]
set_option maxRecDepth 10000 in
theorem run_appendZ (w : World) (ty : TypeId) (base : Nat) (A : Option Addr) (n cap k : Nat) (xs : List Int) (hg : Grow .i64 3 w base A n cap xs) (hk : 0 < k) (hn : n + k < 1099511627776) (hb : base ≤ w.heap.size) :
    ∃ v w', (Builtin.append_ #[27, 3] ty #[.slice A n cap, .int .i64 k]).run Try.prog w = .ok v w' ∧ AppPost base A (n + k) (xs ++ zeros k) w v w' := by
  obtain ⟨i0, hi0, hz0, hz1, hz2⟩ := info_parts Try.infoInt
  have hlen := hg.len
  have hmap : (xs ++ zeros k).map (Value.int .i64) = xs.map (Value.int .i64) ++ (Builtin.zeroCells #[Value.int .i64 0] k).toList := by rw [zeroCells_int]; simp
  have hzc : (Value.int .i64 0).cells = #[Value.int .i64 0] := rfl
  -- what a new row is
  have grown : ∀ old, AppPost base A (n + k) (xs ++ zeros k) w (.slice (some ⟨w.heap.size, 0, none⟩) (n + k) (grownCap w (n + k) old 3))
      (w.drew.alloc (.cells ((xs.map (Value.int .i64)).toArray ++ Builtin.zeroCells #[Value.int .i64 0] k ++ Builtin.zeroCells #[Value.int .i64 0] (grownCap w (n + k) old 3 - (n + k))) 3)) := fun old => by
    have hge := grownCap_ge w (n + k) old 3
    have hcm : grownCap w (n + k) old 3 ≤ maxLen := grownCap_le_maxLen w (n + k) old 3 (by unfold maxLen; omega)
    have hsz : ∀ m, (Builtin.zeroCells #[Value.int .i64 0] m).size = m := fun m => by simp [Builtin.zeroCells]
    refine ⟨_, _, rfl, ⟨by simp [hlen, zeros], .inr ⟨w.heap.size, _, _, rfl, hb, heap_alloc_last _ _, hge, hcm, ?_, ?_⟩⟩, ?_, .inl (by simp)⟩
    · simp only [Array.size_append, List.size_toArray, List.length_map, hlen, hsz]; omega
    · rw [hmap]
      simp only [Array.toList_append]
      have hl2 : (xs.map (Value.int .i64) ++ (Builtin.zeroCells #[Value.int .i64 0] k).toList).length = (n + k) * 1 := by
        simp only [List.length_append, List.length_map, hlen, Array.length_toList, hsz]; omega
      rw [← hl2]
      exact List.take_left
    · exact ((Below.refl base w).drew).alloc hb _
  rcases hg.2 with ⟨e, rfl⟩ | ⟨g, cp, cur, e, hbg, hh, hnc, hcm, hcs, htk⟩
  · injection e with e1 _ e3
    subst e1 e3
    have hx : xs = [] := List.eq_nil_of_length_eq_zero hlen
    subst hx
    refine ⟨_, _, Lib.run_append_nil_zeros (P := Try.prog) w 27 3 ty 3 i0 (.int .i64 0) .i64 .i64 Try.underlying27 Try.underlying3 hi0 hz0 k hk (by omega) (by omega) (by rw [hz2]; omega), ?_⟩
    have := grown 0
    simpa [hzc] using this
  · injection e with e1 e2 e3
    subst e1 e3
    rw [Nat.mul_one] at hcs htk
    by_cases hroom : n + k ≤ cap
    · have hnew : ∀ u ∈ (Builtin.zeroCells #[Value.int .i64 0] k).toList, u.oneCell' = true := fun u hu => by
        rw [zeroCells_int] at hu
        exact ints_oneCell _ _ u hu
      have hzl : (Builtin.zeroCells #[Value.int .i64 0] k).toList.length = k := by rw [zeroCells_int]; simp [zeros]
      have hst := run_storeCells_at Try.prog g n 3 (Builtin.zeroCells #[Value.int .i64 0] k).toList 0 cur w hh (by rw [hzl]; omega) hnew
      simp only [Nat.add_zero] at hst
      have hwk : IntKind.i64.wrap (k : Int) = k := by rw [IntKind.wrap_i64]; omega
      have hneg : ¬ ((k : Int) < 0) := by omega
      have h48 : ¬ (281474976710656 < (k : Int) * 8) := by omega
      have hk0 : ¬ k = 0 := by omega
      refine ⟨.slice (some ⟨g, 0, none⟩) (n + k) cap, w.setRow g (cur.toList.take n ++ (Builtin.zeroCells #[Value.int .i64 0] k).toList ++ cur.toList.drop (n + (Builtin.zeroCells #[Value.int .i64 0] k).toList.length)).toArray, ?_, _, _, rfl, ⟨by simp [hlen, zeros], .inr ⟨g, cap, _, rfl, hbg, setRow_heap w g cur _ _ _ hh, hroom, hcm, ?_, ?_⟩⟩, ?_, .inl (by simp)⟩
      · simp [Builtin.append_, run_underlying Try.underlying27, run_underlying Try.underlying3, sizeOf, typeInfo, zeroValue, hi0, hz0, hz1, hz2, asInt, asIntOf, hwk, hneg, h48, hk0, hroom, hzc, Addr.add_lit, hst]
      · simp only [List.size_toArray, List.length_append, List.length_take, List.length_drop, Array.length_toList, hzl]
        omega
      · rw [htk, hmap]
        have hl2 : (xs.map (Value.int .i64) ++ (Builtin.zeroCells #[Value.int .i64 0] k).toList).length = (n + k) * 1 := by
          rw [List.length_append, List.length_map, hlen, hzl, Nat.mul_one]
        rw [← hl2]
        exact List.take_left
      · exact below_setRow (Below.refl _ _) hbg _
    · have hold := run_firstCells_some (P := Try.prog) w.drew 1 n ⟨g, 0, none⟩ n cap (xs.map (Value.int .i64)) (by simp [hlen]) (fun j u hj => by
        have hjl : j < xs.length := by have := (List.getElem?_eq_some_iff.1 hj).1; simpa using this
        have hc := hg.ints
        obtain ⟨b, off, e, _, hc⟩ := hc.at_ hjl
        injection e with e
        injection e with e1 e2
        subst e1 e2
        have hadd : (⟨g, 0, none⟩ : Addr).add j = ⟨g, 0 + j, none⟩ := by unfold Addr.add; split <;> simp_all
        rw [hadd]
        simp [hjl] at hj
        rw [← hj, ← el_lt hjl]
        exact hc)
      have hold' : (Builtin.firstCells i0.size n (.slice (some ⟨g, 0, none⟩) n cap)).run Try.prog w.drew = .ok (xs.map (Value.int .i64)).toArray w.drew := by rw [hz1]; exact hold
      refine ⟨_, _, Lib.run_append_grow_zeros (P := Try.prog) w 27 3 ty 3 i0 (.int .i64 0) .i64 .i64 Try.underlying27 Try.underlying3 hi0 hz0 (some ⟨g, 0, none⟩) n cap (xs.map (Value.int .i64)) hold' k hk (by omega) (by omega) (by omega) (by rw [hz2]; omega) ?_, ?_⟩
      · rw [hz2]
        exact growslice_fits (by omega) (by omega)
      · have := grown cap
        simpa [hzc] using this

section
variable {w : World} {ops : Array Oper} {rest : List Oper} {o : Oper} {a : Act} {Q : Exit → Act → World → Prop}
set_option maxRecDepth 10000 in
theorem wpList_appendA (s x : Operand) (base : Nat) (A src : Option Addr) (n cap m c B : Nat) (xs ys : List Int)
    (hgd : o.guard = none) (ho : o.op = .call { callee := .builtin .append, args := #[s, x], argTypes := #[27, 27] }) (hs : a.eval s = .slice A n cap) (hx : a.eval x = .slice src m c)
    (hg : Grow .i64 3 w base A n cap xs) (hy : Ints .i64 w B src ys) (hm : ys.length = m) (hn : n + m < 1099511627776) (hb : base ≤ w.heap.size)
    (h : ∀ a' cap' w', Grow .i64 3 w' base a' (n + m) cap' (xs ++ ys) → Below base w w' → a' ≠ none ∨ A = none → wpList Try.prog ops Q rest (a.put o.dst (.slice a' (n + m) cap')) w') : wpList Try.prog ops Q (o :: rest) a w := by
  obtain ⟨v, w', hr, a', cap', rfl, h1, h2, h3⟩ := run_appendA w o.type base A src n cap m c B xs ys hg hy hm hn hb
  exact Lib.wpList_append_run w hgd s x _ _ ho _ _ hs hx _ _ hr (h a' cap' w' h1 h2 h3)
set_option maxRecDepth 10000 in
theorem wpList_appendZ (s x : Operand) (base : Nat) (A : Option Addr) (n cap k : Nat) (xs : List Int)
    (hgd : o.guard = none) (ho : o.op = .call { callee := .builtin .append, args := #[s, x], argTypes := #[27, 3] }) (hs : a.eval s = .slice A n cap) (hx : a.eval x = .int .i64 k)
    (hg : Grow .i64 3 w base A n cap xs) (hk : 0 < k) (hn : n + k < 1099511627776) (hb : base ≤ w.heap.size)
    (h : ∀ a' cap' w', Grow .i64 3 w' base a' (n + k) cap' (xs ++ zeros k) → Below base w w' → a' ≠ none ∨ A = none → wpList Try.prog ops Q rest (a.put o.dst (.slice a' (n + k) cap')) w') : wpList Try.prog ops Q (o :: rest) a w := by
  obtain ⟨v, w', hr, a', cap', rfl, h1, h2, h3⟩ := run_appendZ w o.type base A n cap k xs hg hk hn hb
  exact Lib.wpList_append_run w hgd s x _ _ ho _ _ hs hx _ _ hr (h a' cap' w' h1 h2 h3)
end
end Go.Proofs.Ytnmhiagnmfpipaa
