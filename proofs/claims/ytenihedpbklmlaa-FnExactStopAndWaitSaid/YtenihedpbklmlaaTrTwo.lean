/-
  Two lists that grow in turn, in two blocks of a call's own; append of a whole list inside a drawn region. No condition.
-/
import Derived.Test.YtenihedpbklmlaaTrDraw
import Derived.Deep.DeepAppendRoom
import Derived.ArgAppend
import Derived.Deep.RegionLaw
namespace Go.Proofs.Ytenihedpbklmlaa
open Go.RowKit

section
variable {w : World} {ops : Array Oper} {rest : List Oper} {o : Oper} {a : Act} {Q : Exit → Act → World → Prop}
set_option maxRecDepth 10000 in
/-- One number appended to a slice in block g: it stays in g, or it lies in a new block; no other block changes. -/
theorem run_append_twoT (w : World) (ty : TypeId) (base g n cap : Nat) (xs : List Int) (ad : Addr) (v : Int)
    (hg : Grow .i64 3 w base (some ⟨g, 0, none⟩) n cap xs) (hc : w.cell? ad = some (.int .i64 v)) (hn : n < 1099511627776) (hb : base ≤ w.heap.size) :
    ∃ g' cap' w', (Builtin.append_ #[23, 23] ty #[.slice (some ⟨g, 0, none⟩) n cap, .slice (some ad) 1 1]).run Try.prog w = .ok (.slice (some ⟨g', 0, none⟩) (n + 1) cap') w' ∧
      (g' = g ∨ w.heap.size ≤ g') ∧ Grow .i64 3 w' base (some ⟨g', 0, none⟩) (n + 1) cap' (xs ++ [v]) ∧ w.grownBy w' (some g) := by
  obtain ⟨i0, hi0, hz0, hz1, hz2⟩ := info_parts Try.infoInt
  have hnews : ∀ j u, [Value.int .i64 v][j]? = some u → w.cell? (ad.add j) = some u := fun j u hj => by
    match j, hj with
    | 0, hj => simp at hj; subst hj; simpa [Addr.add] using hc
  have hmap : (xs ++ [v]).map (Value.int .i64) = xs.map (Value.int .i64) ++ [Value.int .i64 v] := by simp
  by_cases hroom : n + 1 ≤ cap
  · obtain ⟨w', hr, h2, h3⟩ := run_append_own_spare (P := Try.prog) w base 23 ty 3 i0 1 Try.underlying23 hi0 hz1 g n cap (xs.map (Value.int .i64)) hg ad 1 1 [.int .i64 v] rfl hnews (by simp [Value.oneCell']) hroom
    refine ⟨g, cap, w', hr, .inl rfl, ?_, h3⟩
    unfold Grow; rw [hmap]; exact h2
  · have hbo : ∀ j u, (xs.map (Value.int .i64))[j]? = some u → w.cell? ((⟨g, 0, none⟩ : Addr).add j) = some u := World.ownsRow.cells hg rfl
    obtain ⟨v', w', hr, h2, h3⟩ := run_append_arg_grows (P := Try.prog) w 23 ty 3 i0 (.int .i64 0) 1 8 Try.underlying23 hi0 hz0 hz1 hz2 rfl (by omega) ⟨g, 0, none⟩ n cap (xs.map (Value.int .i64)) (by have := hg.len; simp [this]) hbo ad 1 1 [.int .i64 v] rfl hnews (by omega) (by unfold maxLen; omega) (by omega)
    have h4 : w.grownBy w' (some g) := ⟨h3.os, h3.tape, h3.output, h3.size, fun k hk _ => h3.block k hk (by simp)⟩
    rcases h2.2 with ⟨_, h0⟩ | ⟨g', c', cur, e, hbg, rest⟩
    · omega
    · subst e
      refine ⟨g', c', w', hr, .inr hbg, ?_, h4⟩
      unfold Grow; rw [hmap]
      exact ⟨h2.1, .inr ⟨g', c', cur, rfl, Nat.le_trans hb hbg, rest⟩⟩
set_option maxRecDepth 10000 in
theorem step_append_twoT {K : Act → World → Prop} {E : Prop} (s x : Operand) (base g n cap : Nat) (xs : List Int) (ad : Addr) (v : Int)
    (hw : Region.wanted o (yielded ops a.tmps) = true) (ho : o.op = .call { callee := .builtin .append, args := #[s, x], argTypes := #[23, 23] }) (hs : a.eval s = .slice (some ⟨g, 0, none⟩) n cap) (hx : a.eval x = .slice (some ad) 1 1)
    (hg : Grow .i64 3 w base (some ⟨g, 0, none⟩) n cap xs) (hc : w.cell? ad = some (.int .i64 v)) (hn : n < 1099511627776) (hb : base ≤ w.heap.size)
    (h : ∀ g' cap' w', (g' = g ∨ w.heap.size ≤ g') → Grow .i64 3 w' base (some ⟨g', 0, none⟩) (n + 1) cap' (xs ++ [v]) → w.grownBy w' (some g) → K (a.put o.dst (.slice (some ⟨g', 0, none⟩) (n + 1) cap')) w') : if Region.wanted o (yielded ops a.tmps) = true then Oper.wp Try.prog o a w K Q else E := by
  rw [if_pos hw]
  obtain ⟨g', cap', w', hr, h1, h2, h3⟩ := run_append_twoT w o.type base g n cap xs ad v hg hc hn hb
  exact Lib.wp_append_run w s x _ _ ho _ _ hs hx _ _ hr (h g' cap' w' h1 h2 h3)
set_option maxRecDepth 10000 in
theorem step_appendT {K : Act → World → Prop} {E : Prop} (s x : Operand) (base : Nat) (A src : Option Addr) (n cap m c B : Nat) (xs ys : List Int)
    (hw : Region.wanted o (yielded ops a.tmps) = true) (ho : o.op = .call { callee := .builtin .append, args := #[s, x], argTypes := #[23, 23] }) (hs : a.eval s = .slice A n cap) (hx : a.eval x = .slice src m c)
    (hg : Grow .i64 3 w base A n cap xs) (hy : Ints .i64 w B src ys) (hm : ys.length = m) (hn : n + m < 1099511627776) (hb : base ≤ w.heap.size)
    (h : ∀ a' cap' w', Grow .i64 3 w' base a' (n + m) cap' (xs ++ ys) → Below base w w' → K (a.put o.dst (.slice a' (n + m) cap')) w') : if Region.wanted o (yielded ops a.tmps) = true then Oper.wp Try.prog o a w K Q else E := by
  rw [if_pos hw]
  obtain ⟨v, w', hr, a', cap', rfl, h1, h2, _⟩ := run_appendA w o.type base A src n cap m c B xs ys hg hy hm hn hb
  exact Lib.wp_append_run w s x _ _ ho _ _ hs hx _ _ hr (h a' cap' w' h1 h2)
end

/-- Two lists that grow, in two blocks of the call's own. -/
def TwoT (w W : World) (tb sb m nt cs : Nat) (ts ss : List Int) (mt : Nat) : Prop :=
  Grow .i64 3 W w.heap.size (some ⟨tb, 0, none⟩) mt nt ts ∧ Grow .i64 3 W w.heap.size (some ⟨sb, 0, none⟩) m cs ss ∧ tb ≠ sb ∧ Below w.heap.size w W
theorem grow_blkTT {k : IntKind} {t : TypeId} {W : World} {base g n cap : Nat} {xs : List Int} (h : Grow k t W base (some ⟨g, 0, none⟩) n cap xs) : base ≤ g ∧ g < W.heap.size := World.ownsRow.lt h g rfl
theorem grow_keptT {k : IntKind} {t : TypeId} {W W' : World} {base g n cap r : Nat} {xs : List Int} (h : Grow k t W base (some ⟨g, 0, none⟩) n cap xs) (hg : W.grownBy W' (some r)) (hne : g ≠ r) : Grow k t W' base (some ⟨g, 0, none⟩) n cap xs :=
  World.ownsRow.kept h hg (.inr (by simpa [Value.ownBlock] using hne))
set_option maxRecDepth 10000 in
theorem TwoT.start (w : World) : TwoT w ((w.alloc (.cells #[] 3)).alloc (.cells #[] 3)) w.heap.size (w.heap.size + 1) 0 0 0 [] [] 0 := by
  refine ⟨(Grow.lit0 _ _ w w.heap.size (Nat.le_refl _)).alloc _, ?_, by omega, ((Below.refl _ _).alloc (Nat.le_refl _) _).alloc (by simp) _⟩
  have := Grow.lit0 .i64 3 (w.alloc (.cells #[] 3)) w.heap.size (by simp)
  simpa using this
theorem TwoT.alloc {w W : World} {tb sb m nt cs mt : Nat} {ts ss : List Int} (h : TwoT w W tb sb m nt cs ts ss mt) (o : Obj) : TwoT w (W.alloc o) tb sb m nt cs ts ss mt :=
  ⟨h.1.alloc o, h.2.1.alloc o, h.2.2.1, h.2.2.2.alloc h.2.2.2.size o⟩
theorem TwoT.drew {w W : World} {tb sb m nt cs mt : Nat} {ts ss : List Int} (h : TwoT w W tb sb m nt cs ts ss mt) : TwoT w W.drew tb sb m nt cs ts ss mt := ⟨h.1.drew, h.2.1.drew, h.2.2.1, h.2.2.2.drew⟩
set_option maxRecDepth 10000 in
theorem TwoT.first {w W W' : World} {tb sb m nt cs mt tb' nt' mt' : Nat} {ts ss ts' : List Int} (h : TwoT w W tb sb m nt cs ts ss mt) (hb : tb' = tb ∨ W.heap.size ≤ tb')
    (hg : Grow .i64 3 W' w.heap.size (some ⟨tb', 0, none⟩) mt' nt' ts') (hw : W.grownBy W' (some tb)) : TwoT w W' tb' sb m nt' cs ts' ss mt' :=
  ⟨hg, grow_keptT h.2.1 hw (fun e => h.2.2.1 e.symm), by have := (grow_blkTT h.2.1); rcases hb with rfl | hb; exact h.2.2.1; omega,
    h.2.2.2.grown hw h.2.2.2.size (fun k e => by injection e with e; subst e; exact (grow_blkTT h.1).1)⟩
set_option maxRecDepth 10000 in
theorem TwoT.second {w W W' : World} {tb sb m nt cs mt sb' cs' m' : Nat} {ts ss ss' : List Int} (h : TwoT w W tb sb m nt cs ts ss mt) (hb : sb' = sb ∨ W.heap.size ≤ sb')
    (hg : Grow .i64 3 W' w.heap.size (some ⟨sb', 0, none⟩) m' cs' ss') (hw : W.grownBy W' (some sb)) : TwoT w W' tb sb' m' nt cs' ts ss' mt :=
  ⟨grow_keptT h.1 hw h.2.2.1, hg, by have := (grow_blkTT h.1); rcases hb with rfl | hb; exact h.2.2.1; omega,
    h.2.2.2.grown hw h.2.2.2.size (fun k e => by injection e with e; subst e; exact (grow_blkTT h.2.1).1)⟩

set_option maxRecDepth 10000 in
theorem grow_litT (w : World) (base : Nat) (a : Int) (hb : base ≤ w.heap.size) : Grow .i64 3 (w.alloc (.cells #[.int .i64 a] 3)) base (some ⟨w.heap.size, 0, none⟩) 1 1 [a] :=
  ⟨rfl, .inr ⟨w.heap.size, 1, #[.int .i64 a], rfl, hb, heap_alloc_last _ _, Nat.le_refl _, by unfold maxLen; omega, rfl, rfl⟩⟩
end Go.Proofs.Ytenihedpbklmlaa
