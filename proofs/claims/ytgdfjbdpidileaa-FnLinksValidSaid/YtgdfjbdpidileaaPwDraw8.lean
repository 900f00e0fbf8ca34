/-
  What the draw of the law of LinksValid answers. No condition.
-/
import Derived.Test.YtgdfjbdpidileaaPwDraw4
namespace Go.Proofs.Ytgdfjbdpidileaa
open Go.RowKit

set_option maxHeartbeats 1000000 in
theorem drawLinksValid_any (a : Option Addr) (c : Nat) (ds : List Int) (w : World) (hx : Ints .u8 w w.heap.size a ds) (hw : ∀ n ∈ ds, isByte n) (hc : ds.length ≤ c) (hcm : c ≤ maxLen) :
    Calls Try.prog 4 #[.slice a ds.length c] w (DrawLkP w) := by
  have hl : ds.length ≤ maxLen := Nat.le_trans hc hcm
  have X0 := lkVar_new w (.slice none 0 0) (.int .i64 0) (.int .i64 0)
  have B0 := alloc_belowX w (.cells #[.slice none 0 0, .int .i64 0, .int .i64 0] 25)
  have HO := Lib.hid (open_any a c ds _ (hx.next B0) hw hc hl hcm)
  have e1 : (w.alloc (.cells #[.slice none 0 0, .int .i64 0, .int .i64 0] 25)).heap.size = w.heap.size + 1 := by simp
  clear hx hw hc hcm hl
  go_enter Try.func4, Try.ntmps4
  go_wp2_with fail
  generalize w.alloc (.cells #[.slice none 0 0, .int .i64 0, .int .i64 0] 25) = W1 at *
  refine HO.out.mono ?_
  rintro e w2 ⟨rfl, r2, b2⟩
  have X2 := Lib.hid (X0.next b2)
  have B2 := Lib.hid (Below.next B0 (Nat.le_refl _) b2)
  rw [e1] at r2
  have R2 := Lib.hid r2
  clear X0 B0 HO r2 b2
  rw [e1]
  go_wp2_with fail
  refine (links_any (w.heap.size + 1) 0 2 w2 R2.out (by omega) (by omega) (by omega)).mono ?_
  rintro e w3 ⟨ga, gc, N, T, R, p', rfl, _, hd, hr3, _, g3⟩
  have X3 := Lib.hid (X2.out.grown g3 (by omega))
  have B3 := Lib.hid (B2.out.grown g3 B2.out.size (fun k hk => by injection hk; omega))
  have D3 := Lib.hid hd
  have s3 : w.heap.size < w3.heap.size := by have := hr3.lt; omega
  clear hd hr3 g3 X2 B2 R2 e1
  have rg := X3.out.g
  have rn := X3.out.n
  have rt := X3.out.t
  have rf := X3.out.f
  go_wp2
  have hg := Lib.grownBy_setB (Lib.grownBy_setB (Lib.grownBy_setCell w3 w.heap.size 0 (.slice ga R.length gc)) 1 (.int .i64 N)) 2 (.int .i64 T)
  refine bodyPost_ret (results_cell_row (P := Try.prog) rfl _ _ w.heap.size 25 #[.slice ga R.length gc, .int .i64 N, .int .i64 T] (0, 0) _ rfl (((X3.out.setG _).setN _).setT _).heap Try.underlying25 rfl (by rw [infoLk]; rfl)) rfl ?_
  exact ⟨ga, gc, N, T, R, rfl, D3.out.typed hg X3.out.heap (by decide) (by decide), B3.out.grown hg B3.out.size (fun k hk => by injection hk; omega)⟩

/-- The slice from 1 on appended to a list of one row of the call's own. -/
theorem news_of {w : World} {B : Nat} {g off : Nat} {R : List (List Int)} (h : ∀ i, i < R.length → ∃ ad cp, w.cell? ⟨g, off + i, none⟩ = some (.slice ad (rwI R i).length cp) ∧ (rwI R i).length ≤ cp ∧ cp ≤ maxLen ∧ Ints .i64 w B ad (rwI R i)) :
    ∃ q : Nat → Option Addr × Nat, ∀ i, i < R.length → w.cell? ⟨g, off + i, none⟩ = some (.slice (q i).1 (rwI R i).length (q i).2) ∧ (rwI R i).length ≤ (q i).2 ∧ (q i).2 ≤ maxLen ∧ Ints .i64 w B (q i).1 (rwI R i) := by
  have each : ∀ i, i < R.length → ∃ q : Option Addr × Nat, w.cell? ⟨g, off + i, none⟩ = some (.slice q.1 (rwI R i).length q.2) ∧ (rwI R i).length ≤ q.2 ∧ q.2 ≤ maxLen ∧ Ints .i64 w B q.1 (rwI R i) := fun i hi => by
    obtain ⟨ad, cp, h1⟩ := h i hi
    exact ⟨(ad, cp), h1⟩
  exact Go.Deep.choose_lt each
theorem step_appendR {w : World} {ops : Array Oper} {o : Oper} {a : Act} {Q : Exit → Act → World → Prop} {K : Act → World → Prop} {E : Prop} (s x : Operand) (base h1 : Nat) (v0 : Value) (ad : Addr) (m c1 : Nat) (news : List Value)
    (hgd : o.guard = none) (ho : o.op = .call { callee := .builtin .append, args := #[s, x], argTypes := #[23, 23] }) (hs : a.eval s = .slice (some ⟨h1, 0, none⟩) 1 1) (hx : a.eval x = .slice (some ad) m c1)
    (hg : GrowV w base (some ⟨h1, 0, none⟩) 1 1 [v0]) (hl : news.length = m) (hc : ∀ j u, news[j]? = some u → w.cell? (ad.add j) = some u) (h1c : ∀ u ∈ news, u.oneCell' = true) (hm : m < 1048576) (hb : base ≤ w.heap.size)
    (h : ∀ a' cap' w', GrowV w' base a' (1 + m) cap' ([v0] ++ news) → Below base w w' → K (a.put o.dst (.slice a' (1 + m) cap')) w') : if Region.wanted o (yielded ops a.tmps) = true then Oper.wp Try.prog o a w K Q else E := by
  rw [if_pos (by simp [Region.wanted, hgd])]
  obtain ⟨i0, hi0, hz0, hz1, hz2⟩ := info_parts Try.infoRowD
  refine wp_append_own w s x _ ho base 29 i0 (.slice none 0 0) 1 24 Try.underlying23 hi0 hz0 hz1 hz2 rfl (by omega) _ 1 _ hs hg ad m c1 news hx (by omega) hc h1c (by unfold maxLen; omega) (by omega) hb ?_
  intro v' w' h2 h3 _
  have hbel := hg.keepsBelow h3 hb
  rcases h2.2 with ⟨_, h0⟩ | ⟨g, c, cur, e, _⟩
  · omega
  · subst e
    exact h _ _ _ h2 hbel
end Go.Proofs.Ytgdfjbdpidileaa
