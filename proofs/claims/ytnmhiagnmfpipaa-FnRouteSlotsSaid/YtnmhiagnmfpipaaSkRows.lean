/-
  Tables that the laws build: rows copied into blocks of their own, rows cut from a table; two lists of rows that grow in turn. No condition; plain lemmas.
-/
import Derived.Test.YtnmhiagnmfpipaaSkDraw1
namespace Go.Proofs.Ytnmhiagnmfpipaa
open Go.RowKit

theorem GrowB.base_le {w : World} {base base' n cap : Nat} {a : Option Addr} {ls : List Bool} (h : GrowB w base a n cap ls) (hb : base' ≤ base) : GrowB w base' a n cap ls := by
  refine ⟨h.1, ?_⟩
  rcases h.2 with h0 | ⟨g, c, cur, e, hg, rest⟩
  · exact .inl h0
  · exact .inr ⟨g, c, cur, e, Nat.le_trans hb hg, rest⟩
set_option maxRecDepth 10000 in
theorem GrowB.row {w : World} {base n cap : Nat} {a : Option Addr} {ls : List Bool} (h : GrowB w base a n cap ls) (hp : 0 < n) : ∃ b f, a = some ⟨b, 0, none⟩ ∧ base ≤ b ∧ n ≤ cap ∧ cap ≤ maxLen ∧ w.rowIs b 4 cap f ∧ ∀ i, i < n → f i = .bool (bt ls i) := by
  rcases h.2 with ⟨_, h0⟩ | ⟨g, c, cur, e, hg, hh, hnc, hcm, hcs, htk⟩
  · omega
  · injection e with e1 e2 e3
    subst e1 e3
    have hlen := h.len
    rw [Nat.mul_one] at hcs htk
    refine ⟨g, fun i => cur.getD i undef, rfl, hg, hnc, hcm, ⟨cur, hh, hcs, fun i hi => ?_⟩, fun i hi => ?_⟩
    · simp [show i < cur.size by omega]
    · have h1 : (cur.toList.take n)[i]? = (ls.map Value.bool)[i]? := by rw [htk]
      rw [List.getElem?_take, if_pos hi] at h1
      have hic : i < cur.size := by omega
      have hix : i < ls.length := by omega
      simp [hic, hix] at h1
      simp [hic, h1, bt, hix]
set_option maxRecDepth 10000 in
/-- A copy of a row of Booleans that is not empty. -/
theorem run_copyB (w : World) (ty : TypeId) (g : Nat) (src : Addr) (m c B : Nat) (ls : List Bool) (hg : GrowB w g (some ⟨g, 0, none⟩) 0 0 []) (hy : Bls w B (some src) ls) (hm : ls.length = m) (h0 : 0 < m) (hn : m < 1099511627776) (hb : g ≤ w.heap.size) :
    ∃ a' cap' w', (Builtin.append_ #[39, 39] ty #[.slice (some ⟨g, 0, none⟩) 0 0, .slice (some src) m c]).run Try.prog w = .ok (.slice a' m cap') w' ∧ GrowB w' g a' m cap' ls ∧ Below g w w' := by
  obtain ⟨i0, hi0, hz0, hz1, hz2⟩ := info_parts Try.infoBool1
  obtain ⟨v', w', hr, h2, h3, h4⟩ := run_append_own (P := Try.prog) w g 39 ty 4 i0 (.bool false) 1 1 Try.underlying39 hi0 hz0 hz1 hz2 rfl (by omega) (.slice (some ⟨g, 0, none⟩) 0 0) 0 [] hg src m c (ls.map Value.bool) (by simp [hm])
    (fun j u hj => by
      have hjl : j < ls.length := by have := (List.getElem?_eq_some_iff.1 hj).1; simpa using this
      obtain ⟨b, off, e, _, hc⟩ := hy.at_ hjl
      injection e with e
      subst e
      have hadd : (⟨b, off, none⟩ : Addr).add j = ⟨b, off + j, none⟩ := by unfold Addr.add; split <;> simp_all
      rw [hadd, hc]
      simp [hjl] at hj
      rw [← hj, bt_lt hjl]) (fun u hu => by obtain ⟨x, _, rfl⟩ := List.mem_map.1 hu; rfl) (by unfold maxLen; omega) (by omega) hb
  rw [Nat.zero_add, List.nil_append] at h2
  rcases h2.2 with ⟨e, h00⟩ | ⟨g', c', cur, e, _⟩
  · omega
  · subst e
    exact ⟨_, _, w', hr, h2, (Below.refl _ _).grown h3 hb hg.own⟩
section
variable {w : World} {ops : Array Oper} {rest : List Oper} {o : Oper} {a : Act} {Q : Exit → Act → World → Prop}
set_option maxRecDepth 10000 in
theorem wpList_copyB (s x : Operand) (g : Nat) (src : Addr) (m c B : Nat) (ls : List Bool)
    (hgd : o.guard = none) (ho : o.op = .call { callee := .builtin .append, args := #[s, x], argTypes := #[39, 39] }) (hs : a.eval s = .slice (some ⟨g, 0, none⟩) 0 0) (hx : a.eval x = .slice (some src) m c)
    (hg : GrowB w g (some ⟨g, 0, none⟩) 0 0 []) (hy : Bls w B (some src) ls) (hm : ls.length = m) (h0 : 0 < m) (hn : m < 1099511627776) (hb : g ≤ w.heap.size)
    (h : ∀ a' cap' w', GrowB w' g a' m cap' ls → Below g w w' → wpList Try.prog ops Q rest (a.put o.dst (.slice a' m cap')) w') : wpList Try.prog ops Q (o :: rest) a w := by
  obtain ⟨a', cap', w', hr, h1, h2⟩ := run_copyB w o.type g src m c B ls hg hy hm h0 hn hb
  exact Lib.wpList_append_run w hgd s x _ _ ho _ _ hs hx _ _ hr (h a' cap' w' h1 h2)
set_option maxRecDepth 10000 in
/-- One row more; the list stays in its block, or lies in a new one. -/
theorem run_appTwoVb (w : World) (ty : TypeId) (base g n cap : Nat) (vs : List Value) (ad : Addr) (a1 : Option Addr) (n1 c1 : Nat)
    (hg : GVb w base (some ⟨g, 0, none⟩) n cap vs) (hc : w.cell? ad = some (.slice a1 n1 c1)) (hn : n < 1099511627776) (hb : base ≤ w.heap.size) :
    ∃ g' cap' w', (Builtin.append_ #[38, 38] ty #[.slice (some ⟨g, 0, none⟩) n cap, .slice (some ad) 1 1]).run Try.prog w = .ok (.slice (some ⟨g', 0, none⟩) (n + 1) cap') w' ∧
      (g' = g ∨ w.heap.size ≤ g') ∧ GVb w' base (some ⟨g', 0, none⟩) (n + 1) cap' (vs ++ [.slice a1 n1 c1]) ∧ w.grownBy w' (some g) := by
  obtain ⟨i0, hi0, hz0, hz1, hz2⟩ := info_parts Try.infoRowB
  have hnews : ∀ j u, [Value.slice a1 n1 c1][j]? = some u → w.cell? (ad.add j) = some u := fun j u hj => by
    match j, hj with
    | 0, hj => simp at hj; subst hj; simpa [Addr.add] using hc
  by_cases hroom : n + 1 ≤ cap
  · obtain ⟨w', hr, h2, h3⟩ := run_append_own_spare (P := Try.prog) w base 38 ty 39 i0 1 Try.underlying38 hi0 hz1 g n cap vs hg ad 1 1 [.slice a1 n1 c1] rfl hnews (by simp [Value.oneCell']) hroom
    exact ⟨g, cap, w', hr, .inl rfl, h2, h3⟩
  · have hbo : ∀ j u, vs[j]? = some u → w.cell? ((⟨g, 0, none⟩ : Addr).add j) = some u := World.ownsRow.cells hg rfl
    obtain ⟨v', w', hr, h2, h3⟩ := run_append_arg_grows (P := Try.prog) w 38 ty 39 i0 (.slice none 0 0) 1 24 Try.underlying38 hi0 hz0 hz1 hz2 rfl (by omega) ⟨g, 0, none⟩ n cap vs (by have := hg.len; simp [this]) hbo ad 1 1 [.slice a1 n1 c1] rfl hnews (by omega) (by unfold maxLen; omega) (by omega)
    have h4 : w.grownBy w' (some g) := ⟨h3.os, h3.tape, h3.output, h3.size, fun k hk _ => h3.block k hk (by simp)⟩
    rcases h2.2 with ⟨_, h0⟩ | ⟨g', c', cur, e, hbg, rest⟩
    · omega
    · subst e
      exact ⟨g', c', w', hr, .inr hbg, ⟨h2.1, .inr ⟨g', c', cur, rfl, Nat.le_trans hb hbg, rest⟩⟩, h4⟩
set_option maxRecDepth 10000 in
theorem wpList_appTwoVb (s x : Operand) (base g n cap : Nat) (vs : List Value) (ad : Addr) (a1 : Option Addr) (n1 c1 : Nat)
    (hgd : o.guard = none) (ho : o.op = .call { callee := .builtin .append, args := #[s, x], argTypes := #[38, 38] }) (hs : a.eval s = .slice (some ⟨g, 0, none⟩) n cap) (hx : a.eval x = .slice (some ad) 1 1)
    (hg : GVb w base (some ⟨g, 0, none⟩) n cap vs) (hc : w.cell? ad = some (.slice a1 n1 c1)) (hn : n < 1099511627776) (hb : base ≤ w.heap.size)
    (h : ∀ g' cap' w', (g' = g ∨ w.heap.size ≤ g') → GVb w' base (some ⟨g', 0, none⟩) (n + 1) cap' (vs ++ [.slice a1 n1 c1]) → w.grownBy w' (some g) → wpList Try.prog ops Q rest (a.put o.dst (.slice (some ⟨g', 0, none⟩) (n + 1) cap')) w') : wpList Try.prog ops Q (o :: rest) a w := by
  obtain ⟨g', cap', w', hr, h1, h2, h3⟩ := run_appTwoVb w o.type base g n cap vs ad a1 n1 c1 hg hc hn hb
  exact Lib.wpList_append_run w hgd s x _ _ ho _ _ hs hx _ _ hr (h g' cap' w' h1 h2 h3)
end
/-- Rows copied, each into a block of its own, from block A on. -/
structure BdR (W : World) (A : Nat) (R : List (List Bool)) (k : Nat) (vs : List Value) (blk cps : Nat → Nat) : Prop where
  at_ : ∀ i, i < k → vs[i]? = some (.slice (some ⟨blk i, 0, none⟩) (rwB R i).length (cps i)) ∧ ((rwB R i).length ≤ cps i ∧ cps i ≤ maxLen) ∧ A ≤ blk i ∧ ∃ f, W.rowIs (blk i) 4 (cps i) f ∧ ∀ j, j < (rwB R i).length → f j = .bool (bt (rwB R i) j)
  inc : ∀ i j, i < j → j < k → blk i < blk j
section
variable {W W' : World} {A k : Nat} {R : List (List Bool)} {vs : List Value} {blk cps : Nat → Nat}
theorem BdR.start (W : World) (A : Nat) (R : List (List Bool)) : BdR W A R 0 [] (fun _ => 0) (fun _ => 0) := ⟨fun i hi => absurd hi (by omega), fun i j _ hj => absurd hj (by omega)⟩
set_option maxRecDepth 10000 in
/-- What does not write into rows of Booleans leaves the copies. -/
theorem BdR.keep (h : BdR W A R k vs blk cps) (hk : ∀ (g : Nat) (c : Array Value), A ≤ g → W.heap[g]? = some (.cells c 4 (0, 0)) → W'.heap[g]? = W.heap[g]?) : BdR W' A R k vs blk cps :=
  ⟨fun i hi => by
    obtain ⟨h1, h2, h3, f, h4, h5⟩ := h.at_ i hi
    obtain ⟨c, hc, _⟩ := id h4
    exact ⟨h1, h2, h3, f, h4.of_block (hk _ c h3 hc), h5⟩, h.inc⟩
theorem BdR.next (h : BdR W A R k vs blk cps) (hb : Below W.heap.size W W') : BdR W' A R k vs blk cps := h.keep fun g _ _ hh => hb.block g (Array.getElem?_eq_some_iff.1 hh).1
theorem BdR.lt (h : BdR W A R k vs blk cps) {i : Nat} (hi : i < k) : blk i < W.heap.size := by
  obtain ⟨_, _, _, f, h4, _⟩ := h.at_ i hi
  exact h4.lt
set_option maxRecDepth 10000 in
theorem BdR.snoc {g c : Nat} (h : BdR W A R k vs blk cps) (hl : vs.length = k) (hb : ∀ i, i < k → blk i < g) (hA : A ≤ g) (hc : (rwB R k).length ≤ c ∧ c ≤ maxLen) {f : Nat → Value} (hf : W.rowIs g 4 c f) (hfe : ∀ j, j < (rwB R k).length → f j = .bool (bt (rwB R k) j)) :
    BdR W A R (k + 1) (vs ++ [.slice (some ⟨g, 0, none⟩) (rwB R k).length c]) (fun i => if i = k then g else blk i) (fun i => if i = k then c else cps i) := by
  refine ⟨fun i hi => ?_, fun i j hij hj => ?_⟩
  · by_cases e : i = k
    · subst e
      simp only [if_true]
      exact ⟨by rw [List.getElem?_append_right (by omega), hl]; simp, hc, hA, f, hf, hfe⟩
    · simp only [e, if_false]
      obtain ⟨h1, h2, h3, f', h4, h5⟩ := h.at_ i (by omega)
      exact ⟨by rw [List.getElem?_append_left (by omega)]; exact h1, h2, h3, f', h4, h5⟩
  · by_cases e : j = k
    · subst e
      simp only [if_true, show i ≠ j by omega, if_false]
      exact hb i hij
    · simp only [e, if_false, show i ≠ k by omega]
      exact h.inc i j hij (by omega)
/-- A list of such rows is a table. -/
theorem BdR.tbl {base n cap : Nat} {a : Option Addr} (h : BdR W A R R.length vs blk cps) (hg : GVb W base a n cap vs) (hn : n = R.length) : TbL W W.heap.size a R := fun hne => by
  subst hn
  have hp : 0 < R.length := List.length_pos_iff.2 hne
  obtain ⟨g, cur, rfl, _, hh, hc⟩ := hg.at_ hp
  refine ⟨g, 0, rfl, (Array.getElem?_eq_some_iff.1 hh).1, fun i hi => ?_⟩
  obtain ⟨h1, h2, _, f, h4, h5⟩ := h.at_ i hi
  refine ⟨_, cps i, by rw [Nat.zero_add]; exact hc i _ hi h1, h2.1, h2.2, fun _ => ⟨blk i, 0, rfl, h4.lt, fun j hj => ?_⟩⟩
  rw [Nat.zero_add, h4.cell (by omega), h5 j hj]
/-- One value of a copy is changed. -/
theorem BdR.set {i j : Nat} {v : Bool} (h : BdR W A R R.length vs blk cps) (hi : i < R.length) (hj : j < (rwB R i).length) : BdR (W.setCell ⟨blk i, j, none⟩ (.bool v)) A (R.set i ((rwB R i).set j v)) (R.set i ((rwB R i).set j v)).length vs blk cps := by
  have hg := Lib.grownBy_setCell W (blk i) j (.bool v)
  refine ⟨fun x hx => ?_, fun x y hxy hy => h.inc x y hxy (by rw [List.length_set] at hy; exact hy)⟩
  rw [List.length_set] at hx
  obtain ⟨h1, h2, h3, f, h4, h5⟩ := h.at_ x hx
  by_cases e : x = i
  · subst e
    have er : rwB (R.set x ((rwB R x).set j v)) x = (rwB R x).set j v := by simp [rwB, hx]
    rw [er, List.length_set]
    refine ⟨h1, h2, h3, _, h4.set j (.bool v), fun y hy => ?_⟩
    by_cases e2 : y = j
    · subst e2; simp [bt, hy]
    · rw [if_neg e2, h5 y hy]
      simp [bt, List.getElem?_set_ne (fun h => e2 h.symm)]
  · have er : rwB (R.set i ((rwB R i).set j v)) x = rwB R x := by
      unfold rwB
      rw [List.getD_eq_getElem?_getD, List.getElem?_set_ne (fun h => e h.symm), ← List.getD_eq_getElem?_getD]
    rw [er]
    have hne : blk x ≠ blk i := by
      rcases Nat.lt_or_ge x i with h6 | h6
      · exact Nat.ne_of_lt (h.inc x i h6 hi)
      · exact Nat.ne_of_gt (h.inc i x (by omega) hx)
    refine ⟨h1, h2, h3, f, h4.of_block (hg.block _ h4.lt (fun e => hne (by injection e))), h5⟩
end
end Go.Proofs.Ytnmhiagnmfpipaa
