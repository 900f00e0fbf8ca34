/-
  What drawing links answers. No condition but that the reader's position is below 2^38.
-/
import Derived.Test.YtgdfjbdpidileaaPwDraw2
import Derived.Deep.Cut
namespace Go.Proofs.Ytgdfjbdpidileaa
open Go.RowKit

/-- Drawn links: rows in memory of their own; only the reader was written besides. -/
def LinksP (R0 p : Nat) (w : World) (e : Ending) (w' : World) : Prop :=
  ∃ a c N T R p', e = .returned (.agg #[.slice a R.length c, .int .i64 N, .int .i64 T]) ∧ R.length ≤ 4 ∧ DRows w' a c R ∧ Rd w' R0 p' ∧ p' ≤ p + 60 ∧ w.grownBy w' (some R0)
/-- The end of drawing links. -/
structure FE (w W : World) (R0 p bx : Nat) (N T : Int) (a : Option Addr) (c : Nat) (R : List (List Int)) : Prop where
  res : LkVar W w.heap.size (.slice none 0 0) (.int .i64 0) (.int .i64 0)
  var : LkVar W bx (.slice a R.length c) (.int .i64 N) (.int .i64 T)
  dr : DRows W a c R
  rd : Rd W R0 p
  g : w.grownBy W (some R0)
  lo : w.heap.size < bx
  r0 : R0 < w.heap.size
  l4 : R.length ≤ 4
section
variable {w W W' : World} {R0 p bx : Nat} {N T : Int} {a : Option Addr} {c : Nat} {R : List (List Int)}
theorem LE.fe {vs : List Value} {i : Nat} {blk : Nat → Nat} (h : LE w W R0 bx N T a i c vs R blk) (hr : Rd W R0 p) (h4 : i ≤ 4) : FE w W R0 p bx N T a c R := by
  have e := h.len
  subst e
  exact ⟨h.res, h.var, ⟨vs, blk, h.gr.base_le (Nat.zero_le _), h.rows⟩, hr, h.g, h.lo, h.r0, h4⟩
theorem FE.pick {p' : Nat} (h : FE w W R0 p bx N T a c R) (hr : Rd W' R0 p') (hg : W.grownBy W' (some R0)) : FE w W' R0 p' bx N T a c R := by
  have h0 := h.r0
  have h1 := h.lo
  exact ⟨h.res.grown hg (by omega), h.var.grown hg (by omega), h.dr.read hg h.rd, hr, grown_trans h.g hg, h.lo, h.r0, h.l4⟩
theorem FE.next (h : FE w W R0 p bx N T a c R) (hb : Below W.heap.size W W') : FE w W' R0 p bx N T a c R :=
  ⟨h.res.next hb, h.var.next hb, h.dr.next hb, h.rd.below hb h.rd.lt, Lib.grownBy_below h.g hb, h.lo, h.r0, h.l4⟩
/-- The links' variable, block bx, was written. -/
theorem FE.wrote {N' T' : Int} (h : FE w W R0 p bx N T a c R) (hg : W.grownBy W' (some bx)) (hv : LkVar W' bx (.slice a R.length c) (.int .i64 N') (.int .i64 T')) : FE w W' R0 p bx N' T' a c R := by
  have h0 := h.r0
  have h1 := h.lo
  exact ⟨h.res.grown hg (by omega), hv, h.dr.typed hg h.var.heap (by decide) (by decide), h.rd.below (⟨hg.os, hg.tape, hg.output, hg.size, fun j hj => hg.block j (Nat.lt_of_lt_of_le hj h.g.size) (fun e => by injection e; omega)⟩ : Below w.heap.size W W') h0,
    ⟨hg.os.trans h.g.os, hg.tape.trans h.g.tape, hg.output.trans h.g.output, Nat.le_trans h.g.size hg.size, fun j hj hne => (hg.block j (Nat.lt_of_lt_of_le hj h.g.size) (fun e => by injection e; omega)).trans (h.g.block j hj hne)⟩, h.lo, h.r0, h.l4⟩
theorem FE.setN (h : FE w W R0 p bx N T a c R) (v : Int) : FE w (W.setCell ⟨bx, 1, none⟩ (.int .i64 v)) R0 p bx v T a c R := h.wrote (Lib.grownBy_setCell W bx 1 _) (h.var.setN _)
theorem FE.setT (h : FE w W R0 p bx N T a c R) (v : Int) : FE w (W.setCell ⟨bx, 2, none⟩ (.int .i64 v)) R0 p bx N v a c R := h.wrote (Lib.grownBy_setCell W bx 2 _) (h.var.setT _)
/-- No rows. -/
theorem FE.none_ (h : FE w W R0 p bx N T a c R) : FE w ((W.alloc (.cells #[] 29)).setCell ⟨bx, 0, none⟩ (.slice (some ⟨W.heap.size, 0, none⟩) 0 0)) R0 p bx N T (some ⟨W.heap.size, 0, none⟩) 0 [] := by
  have h1 := h.next (alloc_belowX W (.cells #[] 29))
  have hg := Lib.grownBy_setCell (W.alloc (.cells #[] 29)) bx 0 (.slice (some ⟨W.heap.size, 0, none⟩) 0 0)
  have h2 := h1.wrote (N' := N) (T' := T) (a := a) hg
  have h0 := h.r0
  have hlo := h.lo
  refine ⟨h1.res.grown hg (by omega), h1.var.setG _, ⟨[], fun _ => 0, (GrowV.lit0 W 0 (Nat.zero_le _)).typed hg h1.var.heap (by decide), fun i hi => absurd hi (by simp)⟩, h1.rd.below (⟨hg.os, hg.tape, hg.output, hg.size, fun j hj => hg.block j (Nat.lt_of_lt_of_le hj h1.g.size) (fun e => by injection e; omega)⟩ : Below w.heap.size _ _) h0,
    ⟨hg.os.trans h1.g.os, hg.tape.trans h1.g.tape, hg.output.trans h1.g.output, Nat.le_trans h1.g.size hg.size, fun j hj hne => (hg.block j (Nat.lt_of_lt_of_le hj h1.g.size) (fun e => by injection e; omega)).trans (h1.g.block j hj hne)⟩, h.lo, h.r0, by simp⟩
theorem FE.heap (h : FE w W R0 p bx N T a c R) : (((W.setCell ⟨w.heap.size, 0, none⟩ (.slice a R.length c)).setCell ⟨w.heap.size, 1, none⟩ (.int .i64 N)).setCell ⟨w.heap.size, 2, none⟩ (.int .i64 T)).heap[w.heap.size]? = some (.cells #[.slice a R.length c, .int .i64 N, .int .i64 T] 25 (0, 0)) :=
  (((h.res.setG _).setN _).setT _).heap
theorem FE.post {q : Nat} (h : FE w W R0 p bx N T a c R) (hq : p ≤ q + 60) : LinksP R0 q w (.returned (.agg #[.slice a R.length c, .int .i64 N, .int .i64 T])) (((W.setCell ⟨w.heap.size, 0, none⟩ (.slice a R.length c)).setCell ⟨w.heap.size, 1, none⟩ (.int .i64 N)).setCell ⟨w.heap.size, 2, none⟩ (.int .i64 T)) := by
  have hg := Lib.grownBy_setB (Lib.grownBy_setB (Lib.grownBy_setCell W w.heap.size 0 (.slice a R.length c)) 1 (.int .i64 N)) 2 (.int .i64 T)
  exact ⟨a, c, N, T, R, p, rfl, h.l4, h.dr.typed hg h.res.heap (by decide) (by decide), h.rd.below (⟨hg.os, hg.tape, hg.output, hg.size, fun j hj => hg.block j (Nat.lt_of_lt_of_le hj h.g.size) (fun e => by injection e; omega)⟩ : Below w.heap.size _ _) h.r0, hq,
    ⟨hg.os.trans h.g.os, hg.tape.trans h.g.tape, hg.output.trans h.g.output, Nat.le_trans h.g.size hg.size, fun j hj hne => (hg.block j (Nat.lt_of_lt_of_le hj h.g.size) (fun e => by injection e; omega)).trans (h.g.block j hj hne)⟩⟩
end
theorem ne_of_type {W : World} {a b : Nat} {c c' : Array Value} {t t' : TypeId} {f f' : Nat × Nat} (ha : W.heap[a]? = some (.cells c t f)) (hb : W.heap[b]? = some (.cells c' t' f')) (h : t ≠ t') : a ≠ b := fun e => by
  subst e
  rw [ha] at hb
  injection hb with hb
  injection hb with _ hb _
  exact h hb
theorem Grow.obj {k : IntKind} {t : TypeId} {W : World} {base n cap g : Nat} {xs : List Int} (h : Grow k t W base (some ⟨g, 0, none⟩) n cap xs) : ∃ cur, W.heap[g]? = some (.cells cur t (0, 0)) := by
  rcases h.2 with ⟨e, _⟩ | ⟨g', c, cur, e, h1, hh, _⟩
  · cases e
  · injection e with e
    injection e with e
    injection e with e
    subst e
    exact ⟨cur, hh⟩
section
variable {w W W' : World} {R0 bx p gG i capG : Nat} {N T : Int} {vs : List Value} {R : List (List Int)} {blk : Nat → Nat}
theorem LE.cell0 {v : Value} (h : LE w W R0 bx N T (some ⟨gG, 0, none⟩) i capG vs R blk) (hi : 0 < i) (hv : vs[0]? = some v) : W.cell? ⟨gG, 0, none⟩ = some v := by
  obtain ⟨g, cur, e, _, _, hc⟩ := h.gr.at_ hi
  injection e with e
  injection e with e
  subst e
  exact hc 0 v hi hv
theorem LE.row0 (h : LE w W R0 bx N T (some ⟨gG, 0, none⟩) i capG vs R blk) (hR : 0 < R.length) (hl : 0 < (rwI R 0).length) : (∃ x, W.cell? ⟨blk 0, 0, none⟩ = some (.int .i64 x)) ∧ W.frozen? ⟨blk 0, 0, none⟩ = false := by
  obtain ⟨cap, _, h2⟩ := h.rows 0 hR
  obtain ⟨b, f, e, _, _, hc, hr, hf⟩ := h2.row hl
  injection e with e
  injection e with e
  rw [e]
  exact ⟨⟨_, (hr.cell (Nat.lt_of_lt_of_le hl hc)).trans (by rw [hf 0 hl])⟩, hr.frozen 0⟩
theorem rwI_set0 {xs : List Int} (hR : 0 < R.length) {j : Nat} : rwI (R.set 0 xs) j = if j = 0 then xs else rwI R j := by
  unfold rwI
  by_cases e : j = 0
  · subst e; simp [hR]
  · have e2 : (0 : Nat) ≠ j := fun h => e h.symm
    simp only [e, if_false, List.getD_eq_getElem?_getD, List.getElem?_set_ne e2]
/-- The number at the beginning of the first row was written. -/
theorem LE.setRow0 (h : LE w W R0 bx N T (some ⟨gG, 0, none⟩) i capG vs R blk) (hr : Rd W R0 p) (hR : 0 < R.length) (h4 : i ≤ 4) (v : Int) : FE w (W.setCell ⟨blk 0, 0, none⟩ (.int .i64 v)) R0 p bx N T (some ⟨gG, 0, none⟩) capG (R.set 0 ((rwI R 0).set 0 v)) := by
  have hg := Lib.grownBy_setCell W (blk 0) 0 (.int .i64 v)
  obtain ⟨cap0, h1, h2⟩ := h.rows 0 hR
  obtain ⟨cur, hcur⟩ := h2.obj
  have hw0 := h.lor 0 hR
  have hr0 := h.r0
  have hlen := h.len
  have hbel : Below w.heap.size W (W.setCell ⟨blk 0, 0, none⟩ (.int .i64 v)) := ⟨hg.os, hg.tape, hg.output, hg.size, fun j hj => hg.block j (Nat.lt_of_lt_of_le hj h.g.size) (fun e => by injection e; omega)⟩
  refine ⟨h.res.grown hg (ne_of_type h.res.heap hcur (by decide)), ?_, ⟨vs, blk, ?_, fun j hj => ?_⟩, hr.below hbel hr0, grown_below h.g hbel (Nat.le_refl _), h.lo, hr0, by rw [List.length_set, hlen]; exact h4⟩
  · rw [List.length_set, hlen]
    exact h.var.grown hg (ne_of_type h.var.heap hcur (by decide))
  · rw [List.length_set, hlen]
    exact (h.gr.typed hg hcur (by decide)).base_le (Nat.zero_le _)
  · rw [List.length_set] at hj
    rw [rwI_set0 hR]
    by_cases e : j = 0
    · subst e
      simp only [if_true, List.length_set]
      exact ⟨cap0, h1, h2.set 0 v⟩
    · simp only [e, if_false]
      obtain ⟨cap, h3, h4⟩ := h.rows j hj
      exact ⟨cap, h3, h4.other hg (fun e2 => h.sep 0 j (by omega) hj e2.symm)⟩
/-- The first row got one number more, and lies in the list of the rows where it lay. -/
theorem LE.appRow0 {a' : Option Addr} {cap0 cap' n : Nat} {xs : List Int} (h : LE w W R0 bx N T (some ⟨gG, 0, none⟩) i capG vs R blk) (hr : Rd W R0 p) (hR : 0 < R.length) (h4 : i ≤ 4) (h1 : Grow .i64 3 W w.heap.size (some ⟨blk 0, 0, none⟩) n cap0 xs)
    (h2 : Grow .i64 3 W' w.heap.size a' (n + 1) cap' (xs ++ [5])) (hg : W.grownBy W' (some (blk 0))) :
    FE w (W'.setCell ⟨gG, 0, none⟩ (.slice a' (n + 1) cap')) R0 p bx N T (some ⟨gG, 0, none⟩) capG (R.set 0 (xs ++ [5])) := by
  obtain ⟨cur, hcur⟩ := h1.obj
  have hw0 := h.lor 0 hR
  have hr0 := h.r0
  have hlen := h.len
  have hi : 0 < i := by omega
  have hbel : Below w.heap.size W W' := ⟨hg.os, hg.tape, hg.output, hg.size, fun j hj => hg.block j (Nat.lt_of_lt_of_le hj h.g.size) (fun e => by injection e; omega)⟩
  have gr' := h.gr.typed hg hcur (by decide)
  have var' := h.var.grown hg (ne_of_type h.var.heap hcur (by decide))
  have res' := h.res.grown hg (ne_of_type h.res.heap hcur (by decide))
  obtain ⟨g, curG, e, hgb, hG, _⟩ := gr'.at_ hi
  injection e with e
  injection e with e
  subst e
  have hs := Lib.grownBy_setCell W' gG 0 (.slice a' (n + 1) cap')
  have hbel2 : Below w.heap.size W' (W'.setCell ⟨gG, 0, none⟩ (.slice a' (n + 1) cap')) := ⟨hs.os, hs.tape, hs.output, hs.size, fun j hj => hs.block j (Nat.lt_of_lt_of_le hj (Nat.le_trans h.g.size hbel.size)) (fun e => by injection e; omega)⟩
  have gr2 : GrowV (W'.setCell ⟨gG, 0, none⟩ (.slice a' (n + 1) cap')) w.heap.size (some ⟨gG, 0, none⟩) i capG (vs.set 0 (.slice a' (n + 1) cap')) := (World.ownsRow.stored gr' 0 (.slice a' (n + 1) cap')).1
  have h2' := h2.typed hs hG (by decide)
  have hvl := h.gr.len
  have hn2 : (xs ++ [5]).length = n + 1 := h2.len
  obtain ⟨ga, f, rfl, _⟩ := h2'.row (by omega)
  refine ⟨res'.grown hs (ne_of_type res'.heap hG (by decide)), ?_, ⟨vs.set 0 (.slice (some ⟨ga, 0, none⟩) (n + 1) cap'), fun j => if j = 0 then ga else blk j, ?_, fun j hj => ?_⟩, (hr.below hbel hr0).below hbel2 hr0, grown_below (grown_below h.g hbel (Nat.le_refl _)) hbel2 (Nat.le_refl _), h.lo, hr0, by rw [List.length_set, hlen]; exact h4⟩
  · rw [List.length_set, hlen]
    exact var'.grown hs (ne_of_type var'.heap hG (by decide))
  · rw [List.length_set, hlen]
    exact gr2.base_le (Nat.zero_le _)
  · rw [List.length_set] at hj
    rw [rwI_set0 hR]
    by_cases e : j = 0
    · subst e
      simp only [if_true]
      rw [hn2]
      exact ⟨cap', by simp [show 0 < vs.length by omega], h2'.base_le (Nat.zero_le _)⟩
    · simp only [e, if_false]
      obtain ⟨cap, h3, h4⟩ := h.rows j hj
      refine ⟨cap, ?_, (h4.other hg (fun e2 => h.sep 0 j (by omega) hj e2.symm)).typed hs hG (by decide)⟩
      rw [List.getElem?_set_ne (fun e2 => e e2.symm)]
      exact h3
end
theorem LE.afterApp {W W' : World} {w : World} {R0 bx gG i capG : Nat} {N T : Int} {vs : List Value} {R : List (List Int)} {blk : Nat → Nat} {v : Value} (h : LE w W R0 bx N T (some ⟨gG, 0, none⟩) i capG vs R blk) (hi : 0 < i) (hv : vs[0]? = some v) (hR : 0 < R.length) (hg : W.grownBy W' (some (blk 0))) :
    LkVar W' bx (.slice (some ⟨gG, 0, none⟩) i capG) (.int .i64 N) (.int .i64 T) ∧ W'.cell? ⟨gG, 0, none⟩ = some v ∧ W'.frozen? ⟨gG, 0, none⟩ = false := by
  obtain ⟨cap0, h1, h2⟩ := h.rows 0 hR
  obtain ⟨cur, hcur⟩ := h2.obj
  have gr' := h.gr.typed hg hcur (by decide)
  obtain ⟨g, curG, e, hgb, hG, hc⟩ := gr'.at_ hi
  injection e with e
  injection e with e
  subst e
  exact ⟨h.var.grown hg (ne_of_type h.var.heap hcur (by decide)), hc 0 v hi hv, by simp [World.frozen?, hG]⟩
theorem step_appendG {w : World} {ops : Array Oper} {o : Oper} {a : Act} {Q : Exit → Act → World → Prop} {K : Act → World → Prop} {E : Prop} (s x : Operand) (base g n cap : Nat) (xs : List Int) (ad : Addr) (v : Int)
    (hgd : o.guard = none) (ho : o.op = .call { callee := .builtin .append, args := #[s, x], argTypes := #[29, 29] }) (hs : a.eval s = .slice (some ⟨g, 0, none⟩) n cap) (hx : a.eval x = .slice (some ad) 1 1)
    (hg : Grow .i64 3 w base (some ⟨g, 0, none⟩) n cap xs) (hc : w.cell? ad = some (.int .i64 v)) (hn : n < 1099511627776) (hb : base ≤ w.heap.size)
    (h : ∀ a' cap' w', Grow .i64 3 w' base a' (n + 1) cap' (xs ++ [v]) → w.grownBy w' (some g) → K (a.put o.dst (.slice a' (n + 1) cap')) w') : if Region.wanted o (yielded ops a.tmps) = true then Oper.wp Try.prog o a w K Q else E := by
  rw [if_pos (by simp [Region.wanted, hgd])]
  obtain ⟨i0, hi0, hz0, hz1, hz2⟩ := info_parts Try.infoInt
  refine wp_append_own w s x _ ho base 3 i0 (.int .i64 0) 1 8 Try.underlying29 hi0 hz0 hz1 hz2 rfl (by omega) _ n _ hs hg ad 1 1 [.int .i64 v] hx rfl ?_ (by simp [Value.oneCell']) (by unfold maxLen; omega) (by omega) hb ?_
  · intro j u hj
    match j, hj with
    | 0, hj => simp at hj; subst hj; simpa [Addr.add] using hc
  · intro v' w' h2 h3 _
    obtain ⟨a', cap', rfl, hgr, _⟩ := grow_of_own hg hb h2 h3
    exact h _ _ _ hgr h3
theorem Grow.rebase {k : IntKind} {t : TypeId} {W : World} {b0 base g n cap : Nat} {xs : List Int} (h : Grow k t W b0 (some ⟨g, 0, none⟩) n cap xs) (hb : base ≤ g) : Grow k t W base (some ⟨g, 0, none⟩) n cap xs := by
  refine ⟨h.1, ?_⟩
  rcases h.2 with h0 | ⟨g', c, cur, e, h1, rest⟩
  · exact .inl h0
  · injection e with e1 e2 e3
    injection e1 with e1
    injection e1 with e1
    subst e1 e3
    exact .inr ⟨g, cap, cur, rfl, hb, rest⟩
/-- Block b holds two numbers. -/
def Lit2 (W : World) (R0 b : Nat) : Prop := b < W.heap.size ∧ b ≠ R0 ∧ ∀ k, k < 2 → ∃ x : Int, W.cell? ⟨b, k, none⟩ = some (.int .i64 x)
theorem Lit2.pick {W W' : World} {R0 b : Nat} (h : Lit2 W R0 b) (g : W.grownBy W' (some R0)) : Lit2 W' R0 b :=
  ⟨Nat.lt_of_lt_of_le h.1 g.size, h.2.1, fun k hk => by rw [World.cell?_of_block (g.block b h.1 (fun e => h.2.1 (by injection e)))]; exact h.2.2 k hk⟩
theorem lit2_new (W : World) {R0 : Nat} (hR : R0 < W.heap.size) : Lit2 (W.alloc (.cells #[.int .i64 0, .int .i64 1001] 3)) R0 W.heap.size :=
  ⟨by simp, by omega, fun k hk => by
    rw [cell_of_row _ _ _ _ _ _ (heap_alloc_last W _)]
    match k, hk with
    | 0, _ => exact ⟨0, rfl⟩
    | 1, _ => exact ⟨1001, rfl⟩
    | (m + 2), h => exact absurd h (by omega)⟩
set_option maxHeartbeats 4000000 in
theorem links_any (R0 p : Nat) (n : Int) (w : World) (hr : Rd w R0 p) (hp : p ≤ 274877906944) (hn1 : 1 ≤ n) (hn2 : n ≤ 1000) : Calls Try.prog 8 #[.pointer (some ⟨R0, 0, none⟩), .int .i64 n] w (LinksP R0 p w) := by
  have Va0 := lkVar_new w (.slice none 0 0) (.int .i64 0) (.int .i64 0)
  have hR0 := hr.lt
  have D0 := Lib.hid (hr.alloc (.cells #[.slice none 0 0, .int .i64 0, .int .i64 0] 25))
  have g0 := World.grownBy_alloc w (.cells #[.slice none 0 0, .int .i64 0, .int .i64 0] 25) (some R0)
  have hs1 : (w.alloc (.cells #[.slice none 0 0, .int .i64 0, .int .i64 0] 25)).heap.size = w.heap.size + 1 := by simp
  clear hr
  go_enter Try.func8, Try.ntmps8
  go_wp2_with fail
  refine (pick_any R0 p 4 _ D0.out (by omega) (by omega) (by omega)).mono ?_
  rintro e w2 ⟨v1, ⟨hv1, hv1'⟩, rfl, r2, g2⟩
  obtain ⟨m0, rfl⟩ := Int.eq_ofNat_of_zero_le hv1
  obtain ⟨M, hM⟩ : ∃ M : Nat, (1 : Int) + (m0 : Int) = (M : Int) := ⟨1 + m0, by omega⟩
  have hM4 : 1 ≤ M ∧ M ≤ 4 := by omega
  have Va2 := Lib.hid (Va0.grown g2 (by omega))
  have D2 := Lib.hid r2
  have G2 := Lib.hid (grown_trans g0 g2)
  have s2 : w.heap.size + 1 ≤ w2.heap.size := by rw [← hs1]; exact g2.size
  have q1 := wrapS (n := (M : Int)) (by omega)
  have q1' := wrapS' (n := (M : Int)) (by omega)
  clear r2 g2 Va0 g0 D0 hs1
  go_wp2_with fail
  clear hM hv1 hv1'
  refine (pick_any R0 (p + 1) 50 w2 D2.out (by omega) (by omega) (by omega)).mono ?_
  rintro e w3 ⟨v2, ⟨hv2, hv2'⟩, rfl, r3, g3⟩
  have Va3 := Lib.hid (Va2.out.grown g3 (by omega))
  have D3 := Lib.hid r3
  have G3 := Lib.hid (grown_trans G2.out g3)
  have s3 : w2.heap.size ≤ w3.heap.size := g3.size
  obtain ⟨N, hN⟩ : ∃ N, 1 + v2 = N := ⟨_, rfl⟩
  have q2 := wrapS (n := N) (by omega)
  have q2' := wrapS' (n := N) (by omega)
  clear r3 g3 Va2 D2 G2
  go_wp2_with fail
  refine (pick_any R0 (p + 1 + 1) 40 w3 D3.out (by omega) (by omega) (by omega)).mono ?_
  rintro e w4 ⟨v3, ⟨hv3, hv3'⟩, rfl, r4, g4⟩
  have Va4 := Lib.hid (Va3.out.grown g4 (by omega))
  have D4 := Lib.hid r4
  have G4 := Lib.hid (grown_trans G3.out g4)
  have s4 : w3.heap.size ≤ w4.heap.size := g4.size
  obtain ⟨T, hT⟩ : ∃ T, 1 + v3 = T := ⟨_, rfl⟩
  have q3 := wrapS (n := T) (by omega)
  have q3' := wrapS' (n := T) (by omega)
  have hr4 : R0 < w4.heap.size := r4.lt
  clear r4 g4 Va3 D3 G3
  have hal := alloc_belowX w4 (.cells #[.slice none 0 0, .int .i64 N, .int .i64 T] 25)
  have E0 : Hid (LE w (w4.alloc (.cells #[.slice none 0 0, .int .i64 N, .int .i64 T] 25)) R0 w4.heap.size N T none 0 0 [] [] (fun _ => 0)) :=
    ⟨Va4.out.next hal, lkVar_new _ _ _ _, GrowV.nil _ _, fun i hi => absurd hi (by simp), rfl, fun i j _ hj => absurd hj (by simp), Lib.grownBy_below G4.out hal, by omega, hR0, fun j hj => absurd hj (by simp)⟩
  have D5 := Lib.hid (D4.out.below hal hr4)
  clear hal Va4 D4 G4
  go_wp2_with fail
  clear hN hT hv2 hv2' hv3 hv3' q1 q1' q2 q2' q3 q3'
  obtain ⟨bx, hbx⟩ : ∃ bx, bx = w4.heap.size := ⟨_, rfl⟩
  generalize w4.alloc (.cells #[.slice none 0 0, .int .i64 N, .int .i64 T] 25) = w5 at *
  rw [← hbx] at E0 ⊢
  clear hbx hr4 s3 s4 s2
  go_loopw [7] (fun x wr => ∃ (i : Nat) (aG : Option Addr) (capG : Nat) (vs : List Value) (R : List (List Int)) (blk : Nat → Nat) (p' : Nat), i ≤ M ∧ x = .int .i64 i ∧ LE w wr R0 bx N T aG i capG vs R blk ∧ Rd wr R0 p' ∧ p' ≤ p + 3 + 8 * i ∧ ∀ j, j < R.length → (rwI R j).length = M) (fun x _ => M - (intOf x).toNat)
  case atStart => exact ⟨0, _, _, _, _, _, _, Nat.zero_le _, rfl, E0.out, D5.out, by omega, fun j hj => absurd hj (by simp)⟩
  case round =>
    obtain ⟨i, aG, capG, vs, R, blk, p6, hi, rfl, hle, hrd, hp6, hlen⟩ := hrel
    obtain ⟨wo, rfl⟩ : ∃ wo, wo = wr := ⟨wr, rfl⟩
    have E := Lib.hid hle
    have D := Lib.hid hrd
    have HLn := Lib.hid hlen
    have hrl : R0 < wo.heap.size := hrd.lt
    have hwr : w.heap.size ≤ wo.heap.size := hle.g.size
    clear hle hrd hlen E0 D5
    by_cases hlt : i < M
    · have L0 := Lib.hid (Grow.lit0 .i64 3 wo wo.heap.size (Nat.le_refl _))
      have D1 := Lib.hid (D.out.alloc (.cells #[] 3))
      have H1 := Lib.hid (World.grownBy_alloc wo (.cells #[] 3) (some R0))
      go_wp2_with fail
      go_loopw [8, 9] (fun s x wi => ∃ (j : Nat) (v8 : Option Addr) (cap8 : Nat) (xs : List Int) (p' : Nat), j ≤ M ∧ x = .int .i64 j ∧ s = .slice v8 j cap8 ∧ Grow .i64 3 wi wo.heap.size v8 j cap8 xs ∧ Rd wi R0 p' ∧ p' ≤ p6 + 2 * j ∧ wo.grownBy wi (some R0)) (fun _ x _ => M - (intOf x).toNat)
      case atStart => exact ⟨0, _, _, _, p6, Nat.zero_le _, rfl, rfl, L0.out, D1.out, by omega, H1.out⟩
      case round =>
        obtain ⟨j, v8, cap8, xs, p7, hj, rfl, rfl, hgr, hrd, hp7, hgb⟩ := hrel
        obtain ⟨wi, rfl⟩ : ∃ wi, wi = wr := ⟨wr, rfl⟩
        have L := Lib.hid hgr
        have D7 := Lib.hid hrd
        have G7 := Lib.hid hgb
        have hwi : wo.heap.size ≤ wi.heap.size := hgb.size
        clear hgr hrd hgb L0 D1 H1
        by_cases hlt2 : j < M
        · go_wp2_with fail
          refine (pick_any R0 p7 20 wi D7.out (by omega) (by omega) (by omega)).mono ?_
          rintro e w7 ⟨y, ⟨hy, hy'⟩, rfl, r7, g7⟩
          have L7 := Lib.hid (L.out.grownR g7 hrl)
          have D8 := Lib.hid r7
          have G8 := Lib.hid (grown_trans G7.out g7)
          have s7 : wi.heap.size ≤ w7.heap.size := g7.size
          clear r7 g7 L D7 G7
          by_cases hij : i = j
          · subst hij
            have z : ((i : Int) == (i : Int)) = true := by simp
            go_wp2_with fail
            refine (pick_any R0 (p7 + 1) 256 w7 D8.out (by omega) (by omega) (by omega)).mono ?_
            rintro e w8 ⟨y2, ⟨hy2, hy2'⟩, rfl, r8, g8⟩
            obtain ⟨u, hu⟩ : ∃ u, 20 + y2 = u := ⟨_, rfl⟩
            have q1 := wrapS (n := u) (by omega)
            have q1' := wrapS' (n := u) (by omega)
            have L8 := Lib.hid (L7.out.grownR g8 hrl)
            have D9 := Lib.hid r8
            have G9 := Lib.hid (grown_trans G8.out g8)
            have s8 : w7.heap.size ≤ w8.heap.size := g8.size
            clear r8 g8 L7 D8 G8 z
            go_wp2_with (at_builtin; refine wpList_append1 (.tmp 40) (.tmp 42) wo.heap.size v8 i cap8 xs ⟨w8.heap.size, 0, none⟩ u rfl rfl rfl rfl (L8.out.alloc _) (by simp) (by omega) (by simp; omega) ?_; intro a3 cap3 w9 hg3 hb3; have LX := Lib.hid hg3; have DX := Lib.hid ((D9.out.alloc _).below hb3 hrl); have GX := Lib.hid (grown_below (grown_alloc G9.out _) hb3 (Nat.le_refl _)); clear hg3 hb3)
            go_roundw
            case rel => exact ⟨i + 1, a3, cap3, _, _, by omega, by go_num, rfl, LX.out, DX.out, by omega, GX.out⟩
            case measure => simp [intOf]; omega
          · have z : ((i : Int) == (j : Int)) = false := by simp; omega
            go_wp2_with (at_builtin; refine wpList_append1 (.tmp 40) (.tmp 42) wo.heap.size v8 j cap8 xs ⟨w7.heap.size, 0, none⟩ y rfl rfl rfl rfl (L7.out.alloc _) (by simp) (by omega) (by simp; omega) ?_; intro a3 cap3 w9 hg3 hb3; have LX := Lib.hid hg3; have DX := Lib.hid ((D8.out.alloc _).below hb3 hrl); have GX := Lib.hid (grown_below (grown_alloc G8.out _) hb3 (Nat.le_refl _)); clear hg3 hb3)
            go_roundw
            case rel => exact ⟨j + 1, a3, cap3, _, _, by omega, by go_num, rfl, LX.out, DX.out, by omega, GX.out⟩
            case measure => simp [intOf]; omega
        · obtain rfl : M = j := by omega
          obtain ⟨g, f, rfl, hg1, hg2, _⟩ := L.out.row (by omega)
          have HX := Lib.hid ((L.out.base_le (Nat.zero_le _)).alloc (.cells #[.slice (some ⟨g, 0, none⟩) M cap8] 29))
          have HXl := Lib.hid (show M = xs.length from L.out.len.symm)
          have E7 := Lib.hid ((E.out.pick D.out G7.out).next (alloc_belowX wi (.cells #[.slice (some ⟨g, 0, none⟩) M cap8] 29)))
          have HSep : Hid (∀ j, j < R.length → blk j ≠ g) := fun j hj => by
            obtain ⟨cap, _, h4⟩ := E.out.rows j hj
            have := (World.ownsRow.lt h4 (blk j) rfl).2
            omega
          have D8 := Lib.hid (D7.out.alloc (.cells #[.slice (some ⟨g, 0, none⟩) M cap8] 29))
          have hgs : w.heap.size ≤ (wi.alloc (.cells #[.slice (some ⟨g, 0, none⟩) M cap8] 29)).heap.size := E7.out.g.size
          have vg := (E.out.pick D.out G7.out).var.g
          have hlo := E.out.lo
          have hvl : bx < wi.heap.size := (E.out.pick D.out G7.out).var.lt
          clear L G7 D7
          go_wp2_with (at_builtin; refine wpList_appendV (.tmp 45) (.tmp 47) w.heap.size aG i capG vs ⟨wi.heap.size, 0, none⟩ (some ⟨g, 0, none⟩) M cap8 rfl rfl rfl rfl E7.out.gr (by simp) (by omega) hgs ?_; intro a4 cap4 w9 hv hg; have EX := Lib.hid (E7.out.app HX.out HXl.out (Nat.le_trans hwr hg1) HSep.out hv hg); have Va9 : LkVar w9 bx (.slice aG i capG) (.int .i64 N) (.int .i64 T) := World.rowIs.of_block E7.out.var (E7.out.gr.leaves hg E7.out.var.heap (by decide)); have v9 := Va9.g; have f9 := Va9.f; have DX := Lib.hid (D8.out.below (E7.out.gr.keepsBelow hg hgs) hR0); have hs9 := Nat.le_trans hgs hg.size; clear hv hg Va9)
          have DY := Lib.hid (DX.out.below (⟨rfl, rfl, rfl, (Lib.grownBy_setCell w9 bx 0 (.slice a4 (i + 1) cap4)).size, fun j hj => (Lib.grownBy_setCell w9 bx 0 (.slice a4 (i + 1) cap4)).block j (Nat.lt_of_lt_of_le hj hs9) (fun e => by injection e; omega)⟩ : Below w.heap.size w9 (w9.setCell ⟨bx, 0, none⟩ (.slice a4 (i + 1) cap4))) hR0)
          go_wp2
          go_roundw
          case rel =>
            refine ⟨i + 1, a4, cap4, _, _, _, _, by omega, by go_num, EX.out, DY.out, by omega, fun j hj => ?_⟩
            by_cases e : j < R.length
            · rw [show rwI (R ++ [xs]) j = rwI R j by simp [rwI, List.getElem?_append_left e]]
              exact HLn.out j e
            · have e2 : j = R.length := by simp at hj; omega
              subst e2
              rw [show rwI (R ++ [xs]) R.length = xs by simp [rwI]]
              exact HXl.out.symm
          case measure => simp [intOf]; omega
    · obtain rfl : M = i := by omega
      have F0 := Lib.hid (E.out.fe D.out hM4.2)
      go_wp2_with fail
      refine (odd_any R0 p6 n wo D.out (by omega) hn1 (by omega)).mono ?_
      rintro e w7 ⟨bo, rfl, r7, g7⟩
      have E7 := Lib.hid (E.out.pick D.out g7)
      have D7 := Lib.hid r7
      have F7 := Lib.hid (F0.out.pick r7 g7)
      clear r7 g7 F0 E D
      cases bo
      · skip
        have vg := F7.out.var.g
        have vn := F7.out.var.n
        have vt := F7.out.var.t
        have rg := F7.out.res.g
        have rn := F7.out.res.n
        have rt := F7.out.res.t
        have rf := F7.out.res.f
        go_wp2
        refine bodyPost_ret (results_cell_row (P := Try.prog) rfl _ _ w.heap.size 25 _ (0, 0) _ rfl F7.out.heap Try.underlying25 rfl (by rw [infoLk]; rfl)) rfl ?_
        exact F7.out.post (by omega)
      · go_wp2_with fail
        refine (pick_any R0 (p6 + 1) 5 w7 D7.out (by omega) (by omega) (by omega)).mono ?_
        rintro e w8 ⟨d, ⟨hd, hd'⟩, rfl, r8, g8⟩
        have E8 := Lib.hid (E7.out.pick D7.out g8)
        have D8 := Lib.hid r8
        have F8 := Lib.hid (F7.out.pick r8 g8)
        clear r8 g8 F7 E7 D7
        have hd5 : d = 0 ∨ d = 1 ∨ d = 2 ∨ d = 3 ∨ d = 4 := by omega
        rcases hd5 with rfl | rfl | rfl | rfl | rfl
        · have D9 := Lib.hid (D8.out.alloc (.cells #[.int .i64 0, .int .i64 1001] 3))
          have F9 := Lib.hid (F8.out.next (alloc_belowX w8 (.cells #[.int .i64 0, .int .i64 1001] 3)))
          have h8 : R0 < w8.heap.size := D8.out.lt
          go_wp2_with fail
          refine (pick_any R0 (p6 + 1 + 1) 2 _ D9.out (by omega) (by omega) (by omega)).mono ?_
          rintro e w9 ⟨k, ⟨hk, hk'⟩, rfl, r9, g9⟩
          have F10 := Lib.hid (F9.out.pick r9 g9)
          have hlit : ∀ i v, (#[.int .i64 0, .int .i64 1001] : Array Value)[i]? = some v → w9.cell? ⟨w8.heap.size, i, none⟩ = some v := fun i v hi => by
            rw [World.cell?_of_block (g9.block w8.heap.size (by simp) (fun e => by injection e; omega)), cell_of_row _ _ _ _ _ _ (heap_alloc_last _ _)]
            exact hi
          have hc0 := hlit 0 _ rfl
          have hc1 := hlit 1 _ rfl
          have vg := F10.out.var.g
          have vn := F10.out.var.n
          have vt := F10.out.var.t
          have vf := F10.out.var.f
          clear r9 g9 hlit D9 F9 D8 F8
          have hk2 : k = 0 ∨ k = 1 := by omega
          rcases hk2 with rfl | rfl
          · have F11 := Lib.hid (F10.out.setN 0)
            have vg := F11.out.var.g
            have vn := F11.out.var.n
            have vt := F11.out.var.t
            have rg := F11.out.res.g
            have rn := F11.out.res.n
            have rt := F11.out.res.t
            have rf := F11.out.res.f
            go_wp2
            refine bodyPost_ret (results_cell_row (P := Try.prog) rfl _ _ w.heap.size 25 _ (0, 0) _ rfl F11.out.heap Try.underlying25 rfl (by rw [infoLk]; rfl)) rfl ?_
            exact F11.out.post (by omega)
          · have F11 := Lib.hid (F10.out.setN 1001)
            have vg := F11.out.var.g
            have vn := F11.out.var.n
            have vt := F11.out.var.t
            have rg := F11.out.res.g
            have rn := F11.out.res.n
            have rt := F11.out.res.t
            have rf := F11.out.res.f
            go_wp2
            refine bodyPost_ret (results_cell_row (P := Try.prog) rfl _ _ w.heap.size 25 _ (0, 0) _ rfl F11.out.heap Try.underlying25 rfl (by rw [infoLk]; rfl)) rfl ?_
            exact F11.out.post (by omega)
        · have D9 := Lib.hid (D8.out.alloc (.cells #[.int .i64 0, .int .i64 101] 3))
          have F9 := Lib.hid (F8.out.next (alloc_belowX w8 (.cells #[.int .i64 0, .int .i64 101] 3)))
          have h8 : R0 < w8.heap.size := D8.out.lt
          go_wp2_with fail
          refine (pick_any R0 (p6 + 1 + 1) 2 _ D9.out (by omega) (by omega) (by omega)).mono ?_
          rintro e w9 ⟨k, ⟨hk, hk'⟩, rfl, r9, g9⟩
          have F10 := Lib.hid (F9.out.pick r9 g9)
          have hlit : ∀ i v, (#[.int .i64 0, .int .i64 101] : Array Value)[i]? = some v → w9.cell? ⟨w8.heap.size, i, none⟩ = some v := fun i v hi => by
            rw [World.cell?_of_block (g9.block w8.heap.size (by simp) (fun e => by injection e; omega)), cell_of_row _ _ _ _ _ _ (heap_alloc_last _ _)]
            exact hi
          have hc0 := hlit 0 _ rfl
          have hc1 := hlit 1 _ rfl
          have vg := F10.out.var.g
          have vn := F10.out.var.n
          have vt := F10.out.var.t
          have vf := F10.out.var.f
          clear r9 g9 hlit D9 F9 D8 F8
          have hk2 : k = 0 ∨ k = 1 := by omega
          rcases hk2 with rfl | rfl
          · have F11 := Lib.hid (F10.out.setT 0)
            have vg := F11.out.var.g
            have vn := F11.out.var.n
            have vt := F11.out.var.t
            have rg := F11.out.res.g
            have rn := F11.out.res.n
            have rt := F11.out.res.t
            have rf := F11.out.res.f
            go_wp2
            refine bodyPost_ret (results_cell_row (P := Try.prog) rfl _ _ w.heap.size 25 _ (0, 0) _ rfl F11.out.heap Try.underlying25 rfl (by rw [infoLk]; rfl)) rfl ?_
            exact F11.out.post (by omega)
          · have F11 := Lib.hid (F10.out.setT 101)
            have vg := F11.out.var.g
            have vn := F11.out.var.n
            have vt := F11.out.var.t
            have rg := F11.out.res.g
            have rn := F11.out.res.n
            have rt := F11.out.res.t
            have rf := F11.out.res.f
            go_wp2
            refine bodyPost_ret (results_cell_row (P := Try.prog) rfl _ _ w.heap.size 25 _ (0, 0) _ rfl F11.out.heap Try.underlying25 rfl (by rw [infoLk]; rfl)) rfl ?_
            exact F11.out.post (by omega)
        · skip
          obtain ⟨gG, hgG⟩ : ∃ gG, aG = some ⟨gG, 0, none⟩ := by
            obtain ⟨g, _, e, _⟩ := E8.out.gr.at_ (by omega)
            exact ⟨g, e⟩
          subst hgG
          have hRl := Lib.hid E8.out.len
          have hR0' : 0 < R.length := by rw [hRl.out]; omega
          have hi0 : 0 < M := by omega
          have hl0 : 0 < (rwI R 0).length := by rw [HLn.out 0 hR0']; omega
          obtain ⟨cap0, hv0, hrow0⟩ := E8.out.rows 0 hR0'
          clear hrow0
          have hl1 := hl0
          generalize (rwI R 0).length = n0 at hv0 hl1
          have HL0 := Lib.hid hl0
          clear hl0
          go_wp2_with fail
          refine wp_region_any (by kernel_rfl) ?_
          change wpAny _ _ _ _ _ _ _ (World.drew _)
          have E8 : Hid (LE w w8.drew R0 bx N T (some ⟨gG, 0, none⟩) M capG vs R blk) := Lib.hid (E8.out.next (below_drewN (Below.refl _ _) 1))
          have D8 : Hid (Rd w8.drew R0 (p6 + 1 + 1)) := D8
          clear F8
          generalize w8.drew = uu at *
          refine wpAny_take (i := 0) (v := ?vv1) rfl (by kernel_rfl) (by kernel_rfl) (by kernel_rfl) (fun _ _ _ h => h) (Or.inl ⟨by kernel_rfl, ?hh1⟩) ?_
          case hh1 => intro w; go_simp; try with_reducible rfl
          go_simp
          refine wpAny_take (i := 5) (v := ?vv2) rfl (by kernel_rfl) (by kernel_rfl) (by kernel_rfl) (fun _ _ _ h => h) (Or.inl ⟨by kernel_rfl, ?hh2⟩) ?_
          case hh2 => intro w; go_simp; try with_reducible rfl
          go_simp
          refine wpAny_ready (rs := [1, 4, 6]) (by kernel_rfl) (by simp) (AllReady.cons rfl (fun K hK => ?_) (AllReady.cons rfl (fun K hK => ?_) (AllReady.cons rfl (fun K hK => ?_) AllReady.nil)))
          · skip
            have ld3 := E8.out.var.g
            go_simp
            refine hK _ _ ?_
            clear hK K ld3
            refine wpAny_take (i := 2) (v := ?vv4) rfl (by kernel_rfl) (by kernel_rfl) (by kernel_rfl) (fun _ _ _ h => h) (Or.inl ⟨by kernel_rfl, ?hh4⟩) ?_
            case hh4 => intro w; go_simp; try with_reducible rfl
            go_simp
            refine wpAny_ready (rs := [3, 4, 6]) (by kernel_rfl) (by simp) (AllReady.cons rfl (fun K hK => ?_) (AllReady.cons rfl (fun K hK => ?_) (AllReady.cons rfl (fun K hK => ?_) AllReady.nil)))
            · skip
              have ld5 := E8.out.cell0 hi0 hv0
              go_simp
              refine hK _ _ ?_
              clear hK K ld5
              refine wpAny_ready (rs := [4, 6]) (by kernel_rfl) (by simp) (AllReady.cons rfl (fun K hK => ?_) (AllReady.cons rfl (fun K hK => ?_) AllReady.nil))
              · skip
                go_simp
                refine hK _ _ ?_
                clear hK K
                have E6 := Lib.hid (E8.out.next (alloc_belowX uu (.cells #[.int .i64 0, .int .i64 1001] 3)))
                have D6 := Lib.hid (D8.out.alloc (.cells #[.int .i64 0, .int .i64 1001] 3))
                have C6 := Lib.hid (lit2_new uu D8.out.lt)
                generalize uu.alloc (.cells #[.int .i64 0, .int .i64 1001] 3) = u6 at E6 D6 C6 ⊢
                refine wpAny_ready (rs := [6]) (by kernel_rfl) (by simp) (AllReady.cons rfl (fun K hK => ?_) AllReady.nil)
                go_simp
                refine (pick_any R0 (p6 + 1 + 1) 2 u6 D6.out (by omega) (by omega) (by omega)).mono ?_
                rintro e u7 ⟨y7, ⟨hx7, hy7⟩, rfl, r7, g7⟩
                obtain ⟨kk, rfl⟩ := Int.eq_ofNat_of_zero_le hx7
                have hkk : kk < 2 := by omega
                have hkk' : (kk : Int) < 2 := by omega
                have E7 := Lib.hid (E6.out.pick D6.out g7)
                have D7 := Lib.hid r7
                have C7 := Lib.hid (C6.out.pick g7)
                clear r7 g7
                go_simp
                refine hK _ _ ?_
                clear hK K
                refine wpAny_take (i := 7) (v := ?vv8) rfl (by kernel_rfl) (by kernel_rfl) (by kernel_rfl) (fun _ _ _ h => h) (Or.inl ⟨by kernel_rfl, ?hh8⟩) ?_
                case hh8 => intro w; go_simp; try with_reducible rfl
                go_simp
                refine wpAny_ready (rs := [8]) (by kernel_rfl) (by simp) (AllReady.cons rfl (fun K hK => ?_) AllReady.nil)
                obtain ⟨y, ld9⟩ := C7.out.2.2 kk hkk
                go_simp
                refine hK _ _ ?_
                clear hK K ld9
                refine wpAny_take (i := 9) (v := ?vv10) rfl (by kernel_rfl) (by kernel_rfl) (by kernel_rfl) (fun _ _ _ h => h) (Or.inl ⟨by kernel_rfl, ?hh10⟩) ?_
                case hh10 => intro w; go_simp; try with_reducible rfl
                go_simp
                obtain ⟨⟨x0, st0⟩, sf0⟩ := E7.out.row0 hR0' HL0.out
                refine wpAny_ready (rs := [10]) (by kernel_rfl) (by simp) (AllReady.cons rfl (fun K hK => ?_) AllReady.nil)
                go_simp
                refine hK _ _ ?_
                clear hK K st0 sf0
                refine wpAny_done (by kernel_rfl) ?_ _
                have FZ := E7.out.setRow0 D7.out hR0' hM4.2 y
                obtain ⟨RZ, hRZ⟩ : ∃ RZ, RZ = R.set 0 ((rwI R 0).set 0 y) := ⟨_, rfl⟩
                rw [← hRZ] at FZ
                clear hRZ
                have FZ := Lib.hid FZ
                have vg := FZ.out.var.g
                have vn := FZ.out.var.n
                have vt := FZ.out.var.t
                have rg := FZ.out.res.g
                have rn := FZ.out.res.n
                have rt := FZ.out.res.t
                have rf := FZ.out.res.f
                go_wp2
                refine bodyPost_ret (results_cell_row (P := Try.prog) rfl _ _ w.heap.size 25 _ (0, 0) _ rfl FZ.out.heap Try.underlying25 rfl (by rw [infoLk]; rfl)) rfl ?_
                exact FZ.out.post (by omega)
              · skip
                go_simp
                refine (pick_any R0 (p6 + 1 + 1) 2 uu D8.out (by omega) (by omega) (by omega)).mono ?_
                rintro e u11 ⟨y11, ⟨hx11, hy11⟩, rfl, r11, g11⟩
                obtain ⟨kk, rfl⟩ := Int.eq_ofNat_of_zero_le hx11
                have hkk : kk < 2 := by omega
                have hkk' : (kk : Int) < 2 := by omega
                have E11 := Lib.hid (E8.out.pick D8.out g11)
                have D11 := Lib.hid r11
                clear r11 g11
                go_simp
                refine hK _ _ ?_
                clear hK K
                refine wpAny_ready (rs := [4]) (by kernel_rfl) (by simp) (AllReady.cons rfl (fun K hK => ?_) AllReady.nil)
                go_simp
                refine hK _ _ ?_
                clear hK K
                have E12 := Lib.hid (E11.out.next (alloc_belowX u11 (.cells #[.int .i64 0, .int .i64 1001] 3)))
                have D12 := Lib.hid (D11.out.alloc (.cells #[.int .i64 0, .int .i64 1001] 3))
                have C12 := Lib.hid (lit2_new u11 D11.out.lt)
                generalize u11.alloc (.cells #[.int .i64 0, .int .i64 1001] 3) = u12 at E12 D12 C12 ⊢
                refine wpAny_take (i := 7) (v := ?vv13) rfl (by kernel_rfl) (by kernel_rfl) (by kernel_rfl) (fun _ _ _ h => h) (Or.inl ⟨by kernel_rfl, ?hh13⟩) ?_
                case hh13 => intro w; go_simp; try with_reducible rfl
                go_simp
                refine wpAny_ready (rs := [8]) (by kernel_rfl) (by simp) (AllReady.cons rfl (fun K hK => ?_) AllReady.nil)
                obtain ⟨y, ld14⟩ := C12.out.2.2 kk hkk
                go_simp
                refine hK _ _ ?_
                clear hK K ld14
                refine wpAny_take (i := 9) (v := ?vv15) rfl (by kernel_rfl) (by kernel_rfl) (by kernel_rfl) (fun _ _ _ h => h) (Or.inl ⟨by kernel_rfl, ?hh15⟩) ?_
                case hh15 => intro w; go_simp; try with_reducible rfl
                go_simp
                obtain ⟨⟨x0, st0⟩, sf0⟩ := E12.out.row0 hR0' HL0.out
                refine wpAny_ready (rs := [10]) (by kernel_rfl) (by simp) (AllReady.cons rfl (fun K hK => ?_) AllReady.nil)
                go_simp
                refine hK _ _ ?_
                clear hK K st0 sf0
                refine wpAny_done (by kernel_rfl) ?_ _
                have FZ := E12.out.setRow0 D12.out hR0' hM4.2 y
                obtain ⟨RZ, hRZ⟩ : ∃ RZ, RZ = R.set 0 ((rwI R 0).set 0 y) := ⟨_, rfl⟩
                rw [← hRZ] at FZ
                clear hRZ
                have FZ := Lib.hid FZ
                have vg := FZ.out.var.g
                have vn := FZ.out.var.n
                have vt := FZ.out.var.t
                have rg := FZ.out.res.g
                have rn := FZ.out.res.n
                have rt := FZ.out.res.t
                have rf := FZ.out.res.f
                go_wp2
                refine bodyPost_ret (results_cell_row (P := Try.prog) rfl _ _ w.heap.size 25 _ (0, 0) _ rfl FZ.out.heap Try.underlying25 rfl (by rw [infoLk]; rfl)) rfl ?_
                exact FZ.out.post (by omega)
            · skip
              go_simp
              refine hK _ _ ?_
              clear hK K
              have E16 := Lib.hid (E8.out.next (alloc_belowX uu (.cells #[.int .i64 0, .int .i64 1001] 3)))
              have D16 := Lib.hid (D8.out.alloc (.cells #[.int .i64 0, .int .i64 1001] 3))
              have C16 := Lib.hid (lit2_new uu D8.out.lt)
              generalize uu.alloc (.cells #[.int .i64 0, .int .i64 1001] 3) = u16 at E16 D16 C16 ⊢
              refine wpAny_ready (rs := [3, 6]) (by kernel_rfl) (by simp) (AllReady.cons rfl (fun K hK => ?_) (AllReady.cons rfl (fun K hK => ?_) AllReady.nil))
              · skip
                have ld17 := E16.out.cell0 hi0 hv0
                go_simp
                refine hK _ _ ?_
                clear hK K ld17
                refine wpAny_ready (rs := [6]) (by kernel_rfl) (by simp) (AllReady.cons rfl (fun K hK => ?_) AllReady.nil)
                go_simp
                refine (pick_any R0 (p6 + 1 + 1) 2 u16 D16.out (by omega) (by omega) (by omega)).mono ?_
                rintro e u18 ⟨y18, ⟨hx18, hy18⟩, rfl, r18, g18⟩
                obtain ⟨kk, rfl⟩ := Int.eq_ofNat_of_zero_le hx18
                have hkk : kk < 2 := by omega
                have hkk' : (kk : Int) < 2 := by omega
                have E18 := Lib.hid (E16.out.pick D16.out g18)
                have D18 := Lib.hid r18
                have C18 := Lib.hid (C16.out.pick g18)
                clear r18 g18
                go_simp
                refine hK _ _ ?_
                clear hK K
                refine wpAny_take (i := 7) (v := ?vv19) rfl (by kernel_rfl) (by kernel_rfl) (by kernel_rfl) (fun _ _ _ h => h) (Or.inl ⟨by kernel_rfl, ?hh19⟩) ?_
                case hh19 => intro w; go_simp; try with_reducible rfl
                go_simp
                refine wpAny_ready (rs := [8]) (by kernel_rfl) (by simp) (AllReady.cons rfl (fun K hK => ?_) AllReady.nil)
                obtain ⟨y, ld20⟩ := C18.out.2.2 kk hkk
                go_simp
                refine hK _ _ ?_
                clear hK K ld20
                refine wpAny_take (i := 9) (v := ?vv21) rfl (by kernel_rfl) (by kernel_rfl) (by kernel_rfl) (fun _ _ _ h => h) (Or.inl ⟨by kernel_rfl, ?hh21⟩) ?_
                case hh21 => intro w; go_simp; try with_reducible rfl
                go_simp
                obtain ⟨⟨x0, st0⟩, sf0⟩ := E18.out.row0 hR0' HL0.out
                refine wpAny_ready (rs := [10]) (by kernel_rfl) (by simp) (AllReady.cons rfl (fun K hK => ?_) AllReady.nil)
                go_simp
                refine hK _ _ ?_
                clear hK K st0 sf0
                refine wpAny_done (by kernel_rfl) ?_ _
                have FZ := E18.out.setRow0 D18.out hR0' hM4.2 y
                obtain ⟨RZ, hRZ⟩ : ∃ RZ, RZ = R.set 0 ((rwI R 0).set 0 y) := ⟨_, rfl⟩
                rw [← hRZ] at FZ
                clear hRZ
                have FZ := Lib.hid FZ
                have vg := FZ.out.var.g
                have vn := FZ.out.var.n
                have vt := FZ.out.var.t
                have rg := FZ.out.res.g
                have rn := FZ.out.res.n
                have rt := FZ.out.res.t
                have rf := FZ.out.res.f
                go_wp2
                refine bodyPost_ret (results_cell_row (P := Try.prog) rfl _ _ w.heap.size 25 _ (0, 0) _ rfl FZ.out.heap Try.underlying25 rfl (by rw [infoLk]; rfl)) rfl ?_
                exact FZ.out.post (by omega)
              · skip
                go_simp
                refine (pick_any R0 (p6 + 1 + 1) 2 u16 D16.out (by omega) (by omega) (by omega)).mono ?_
                rintro e u22 ⟨y22, ⟨hx22, hy22⟩, rfl, r22, g22⟩
                obtain ⟨kk, rfl⟩ := Int.eq_ofNat_of_zero_le hx22
                have hkk : kk < 2 := by omega
                have hkk' : (kk : Int) < 2 := by omega
                have E22 := Lib.hid (E16.out.pick D16.out g22)
                have D22 := Lib.hid r22
                have C22 := Lib.hid (C16.out.pick g22)
                clear r22 g22
                go_simp
                refine hK _ _ ?_
                clear hK K
                refine wpAny_take (i := 7) (v := ?vv23) rfl (by kernel_rfl) (by kernel_rfl) (by kernel_rfl) (fun _ _ _ h => h) (Or.inl ⟨by kernel_rfl, ?hh23⟩) ?_
                case hh23 => intro w; go_simp; try with_reducible rfl
                go_simp
                refine wpAny_ready (rs := [3, 8]) (by kernel_rfl) (by simp) (AllReady.cons rfl (fun K hK => ?_) (AllReady.cons rfl (fun K hK => ?_) AllReady.nil))
                · skip
                  have ld24 := E22.out.cell0 hi0 hv0
                  go_simp
                  refine hK _ _ ?_
                  clear hK K ld24
                  refine wpAny_ready (rs := [8]) (by kernel_rfl) (by simp) (AllReady.cons rfl (fun K hK => ?_) AllReady.nil)
                  obtain ⟨y, ld25⟩ := C22.out.2.2 kk hkk
                  go_simp
                  refine hK _ _ ?_
                  clear hK K ld25
                  refine wpAny_take (i := 9) (v := ?vv26) rfl (by kernel_rfl) (by kernel_rfl) (by kernel_rfl) (fun _ _ _ h => h) (Or.inl ⟨by kernel_rfl, ?hh26⟩) ?_
                  case hh26 => intro w; go_simp; try with_reducible rfl
                  go_simp
                  obtain ⟨⟨x0, st0⟩, sf0⟩ := E22.out.row0 hR0' HL0.out
                  refine wpAny_ready (rs := [10]) (by kernel_rfl) (by simp) (AllReady.cons rfl (fun K hK => ?_) AllReady.nil)
                  go_simp
                  refine hK _ _ ?_
                  clear hK K st0 sf0
                  refine wpAny_done (by kernel_rfl) ?_ _
                  have FZ := E22.out.setRow0 D22.out hR0' hM4.2 y
                  obtain ⟨RZ, hRZ⟩ : ∃ RZ, RZ = R.set 0 ((rwI R 0).set 0 y) := ⟨_, rfl⟩
                  rw [← hRZ] at FZ
                  clear hRZ
                  have FZ := Lib.hid FZ
                  have vg := FZ.out.var.g
                  have vn := FZ.out.var.n
                  have vt := FZ.out.var.t
                  have rg := FZ.out.res.g
                  have rn := FZ.out.res.n
                  have rt := FZ.out.res.t
                  have rf := FZ.out.res.f
                  go_wp2
                  refine bodyPost_ret (results_cell_row (P := Try.prog) rfl _ _ w.heap.size 25 _ (0, 0) _ rfl FZ.out.heap Try.underlying25 rfl (by rw [infoLk]; rfl)) rfl ?_
                  exact FZ.out.post (by omega)
                · skip
                  obtain ⟨y, ld27⟩ := C22.out.2.2 kk hkk
                  go_simp
                  refine hK _ _ ?_
                  clear hK K ld27
                  refine wpAny_ready (rs := [3]) (by kernel_rfl) (by simp) (AllReady.cons rfl (fun K hK => ?_) AllReady.nil)
                  have ld28 := E22.out.cell0 hi0 hv0
                  go_simp
                  refine hK _ _ ?_
                  clear hK K ld28
                  refine wpAny_take (i := 9) (v := ?vv29) rfl (by kernel_rfl) (by kernel_rfl) (by kernel_rfl) (fun _ _ _ h => h) (Or.inl ⟨by kernel_rfl, ?hh29⟩) ?_
                  case hh29 => intro w; go_simp; try with_reducible rfl
                  go_simp
                  obtain ⟨⟨x0, st0⟩, sf0⟩ := E22.out.row0 hR0' HL0.out
                  refine wpAny_ready (rs := [10]) (by kernel_rfl) (by simp) (AllReady.cons rfl (fun K hK => ?_) AllReady.nil)
                  go_simp
                  refine hK _ _ ?_
                  clear hK K st0 sf0
                  refine wpAny_done (by kernel_rfl) ?_ _
                  have FZ := E22.out.setRow0 D22.out hR0' hM4.2 y
                  obtain ⟨RZ, hRZ⟩ : ∃ RZ, RZ = R.set 0 ((rwI R 0).set 0 y) := ⟨_, rfl⟩
                  rw [← hRZ] at FZ
                  clear hRZ
                  have FZ := Lib.hid FZ
                  have vg := FZ.out.var.g
                  have vn := FZ.out.var.n
                  have vt := FZ.out.var.t
                  have rg := FZ.out.res.g
                  have rn := FZ.out.res.n
                  have rt := FZ.out.res.t
                  have rf := FZ.out.res.f
                  go_wp2
                  refine bodyPost_ret (results_cell_row (P := Try.prog) rfl _ _ w.heap.size 25 _ (0, 0) _ rfl FZ.out.heap Try.underlying25 rfl (by rw [infoLk]; rfl)) rfl ?_
                  exact FZ.out.post (by omega)
            · skip
              go_simp
              refine (pick_any R0 (p6 + 1 + 1) 2 uu D8.out (by omega) (by omega) (by omega)).mono ?_
              rintro e u30 ⟨y30, ⟨hx30, hy30⟩, rfl, r30, g30⟩
              obtain ⟨kk, rfl⟩ := Int.eq_ofNat_of_zero_le hx30
              have hkk : kk < 2 := by omega
              have hkk' : (kk : Int) < 2 := by omega
              have E30 := Lib.hid (E8.out.pick D8.out g30)
              have D30 := Lib.hid r30
              clear r30 g30
              go_simp
              refine hK _ _ ?_
              clear hK K
              refine wpAny_ready (rs := [3, 4]) (by kernel_rfl) (by simp) (AllReady.cons rfl (fun K hK => ?_) (AllReady.cons rfl (fun K hK => ?_) AllReady.nil))
              · skip
                have ld31 := E30.out.cell0 hi0 hv0
                go_simp
                refine hK _ _ ?_
                clear hK K ld31
                refine wpAny_ready (rs := [4]) (by kernel_rfl) (by simp) (AllReady.cons rfl (fun K hK => ?_) AllReady.nil)
                go_simp
                refine hK _ _ ?_
                clear hK K
                have E32 := Lib.hid (E30.out.next (alloc_belowX u30 (.cells #[.int .i64 0, .int .i64 1001] 3)))
                have D32 := Lib.hid (D30.out.alloc (.cells #[.int .i64 0, .int .i64 1001] 3))
                have C32 := Lib.hid (lit2_new u30 D30.out.lt)
                generalize u30.alloc (.cells #[.int .i64 0, .int .i64 1001] 3) = u32 at E32 D32 C32 ⊢
                refine wpAny_take (i := 7) (v := ?vv33) rfl (by kernel_rfl) (by kernel_rfl) (by kernel_rfl) (fun _ _ _ h => h) (Or.inl ⟨by kernel_rfl, ?hh33⟩) ?_
                case hh33 => intro w; go_simp; try with_reducible rfl
                go_simp
                refine wpAny_ready (rs := [8]) (by kernel_rfl) (by simp) (AllReady.cons rfl (fun K hK => ?_) AllReady.nil)
                obtain ⟨y, ld34⟩ := C32.out.2.2 kk hkk
                go_simp
                refine hK _ _ ?_
                clear hK K ld34
                refine wpAny_take (i := 9) (v := ?vv35) rfl (by kernel_rfl) (by kernel_rfl) (by kernel_rfl) (fun _ _ _ h => h) (Or.inl ⟨by kernel_rfl, ?hh35⟩) ?_
                case hh35 => intro w; go_simp; try with_reducible rfl
                go_simp
                obtain ⟨⟨x0, st0⟩, sf0⟩ := E32.out.row0 hR0' HL0.out
                refine wpAny_ready (rs := [10]) (by kernel_rfl) (by simp) (AllReady.cons rfl (fun K hK => ?_) AllReady.nil)
                go_simp
                refine hK _ _ ?_
                clear hK K st0 sf0
                refine wpAny_done (by kernel_rfl) ?_ _
                have FZ := E32.out.setRow0 D32.out hR0' hM4.2 y
                obtain ⟨RZ, hRZ⟩ : ∃ RZ, RZ = R.set 0 ((rwI R 0).set 0 y) := ⟨_, rfl⟩
                rw [← hRZ] at FZ
                clear hRZ
                have FZ := Lib.hid FZ
                have vg := FZ.out.var.g
                have vn := FZ.out.var.n
                have vt := FZ.out.var.t
                have rg := FZ.out.res.g
                have rn := FZ.out.res.n
                have rt := FZ.out.res.t
                have rf := FZ.out.res.f
                go_wp2
                refine bodyPost_ret (results_cell_row (P := Try.prog) rfl _ _ w.heap.size 25 _ (0, 0) _ rfl FZ.out.heap Try.underlying25 rfl (by rw [infoLk]; rfl)) rfl ?_
                exact FZ.out.post (by omega)
              · skip
                go_simp
                refine hK _ _ ?_
                clear hK K
                have E36 := Lib.hid (E30.out.next (alloc_belowX u30 (.cells #[.int .i64 0, .int .i64 1001] 3)))
                have D36 := Lib.hid (D30.out.alloc (.cells #[.int .i64 0, .int .i64 1001] 3))
                have C36 := Lib.hid (lit2_new u30 D30.out.lt)
                generalize u30.alloc (.cells #[.int .i64 0, .int .i64 1001] 3) = u36 at E36 D36 C36 ⊢
                refine wpAny_take (i := 7) (v := ?vv37) rfl (by kernel_rfl) (by kernel_rfl) (by kernel_rfl) (fun _ _ _ h => h) (Or.inl ⟨by kernel_rfl, ?hh37⟩) ?_
                case hh37 => intro w; go_simp; try with_reducible rfl
                go_simp
                refine wpAny_ready (rs := [3, 8]) (by kernel_rfl) (by simp) (AllReady.cons rfl (fun K hK => ?_) (AllReady.cons rfl (fun K hK => ?_) AllReady.nil))
                · skip
                  have ld38 := E36.out.cell0 hi0 hv0
                  go_simp
                  refine hK _ _ ?_
                  clear hK K ld38
                  refine wpAny_ready (rs := [8]) (by kernel_rfl) (by simp) (AllReady.cons rfl (fun K hK => ?_) AllReady.nil)
                  obtain ⟨y, ld39⟩ := C36.out.2.2 kk hkk
                  go_simp
                  refine hK _ _ ?_
                  clear hK K ld39
                  refine wpAny_take (i := 9) (v := ?vv40) rfl (by kernel_rfl) (by kernel_rfl) (by kernel_rfl) (fun _ _ _ h => h) (Or.inl ⟨by kernel_rfl, ?hh40⟩) ?_
                  case hh40 => intro w; go_simp; try with_reducible rfl
                  go_simp
                  obtain ⟨⟨x0, st0⟩, sf0⟩ := E36.out.row0 hR0' HL0.out
                  refine wpAny_ready (rs := [10]) (by kernel_rfl) (by simp) (AllReady.cons rfl (fun K hK => ?_) AllReady.nil)
                  go_simp
                  refine hK _ _ ?_
                  clear hK K st0 sf0
                  refine wpAny_done (by kernel_rfl) ?_ _
                  have FZ := E36.out.setRow0 D36.out hR0' hM4.2 y
                  obtain ⟨RZ, hRZ⟩ : ∃ RZ, RZ = R.set 0 ((rwI R 0).set 0 y) := ⟨_, rfl⟩
                  rw [← hRZ] at FZ
                  clear hRZ
                  have FZ := Lib.hid FZ
                  have vg := FZ.out.var.g
                  have vn := FZ.out.var.n
                  have vt := FZ.out.var.t
                  have rg := FZ.out.res.g
                  have rn := FZ.out.res.n
                  have rt := FZ.out.res.t
                  have rf := FZ.out.res.f
                  go_wp2
                  refine bodyPost_ret (results_cell_row (P := Try.prog) rfl _ _ w.heap.size 25 _ (0, 0) _ rfl FZ.out.heap Try.underlying25 rfl (by rw [infoLk]; rfl)) rfl ?_
                  exact FZ.out.post (by omega)
                · skip
                  obtain ⟨y, ld41⟩ := C36.out.2.2 kk hkk
                  go_simp
                  refine hK _ _ ?_
                  clear hK K ld41
                  refine wpAny_ready (rs := [3]) (by kernel_rfl) (by simp) (AllReady.cons rfl (fun K hK => ?_) AllReady.nil)
                  have ld42 := E36.out.cell0 hi0 hv0
                  go_simp
                  refine hK _ _ ?_
                  clear hK K ld42
                  refine wpAny_take (i := 9) (v := ?vv43) rfl (by kernel_rfl) (by kernel_rfl) (by kernel_rfl) (fun _ _ _ h => h) (Or.inl ⟨by kernel_rfl, ?hh43⟩) ?_
                  case hh43 => intro w; go_simp; try with_reducible rfl
                  go_simp
                  obtain ⟨⟨x0, st0⟩, sf0⟩ := E36.out.row0 hR0' HL0.out
                  refine wpAny_ready (rs := [10]) (by kernel_rfl) (by simp) (AllReady.cons rfl (fun K hK => ?_) AllReady.nil)
                  go_simp
                  refine hK _ _ ?_
                  clear hK K st0 sf0
                  refine wpAny_done (by kernel_rfl) ?_ _
                  have FZ := E36.out.setRow0 D36.out hR0' hM4.2 y
                  obtain ⟨RZ, hRZ⟩ : ∃ RZ, RZ = R.set 0 ((rwI R 0).set 0 y) := ⟨_, rfl⟩
                  rw [← hRZ] at FZ
                  clear hRZ
                  have FZ := Lib.hid FZ
                  have vg := FZ.out.var.g
                  have vn := FZ.out.var.n
                  have vt := FZ.out.var.t
                  have rg := FZ.out.res.g
                  have rn := FZ.out.res.n
                  have rt := FZ.out.res.t
                  have rf := FZ.out.res.f
                  go_wp2
                  refine bodyPost_ret (results_cell_row (P := Try.prog) rfl _ _ w.heap.size 25 _ (0, 0) _ rfl FZ.out.heap Try.underlying25 rfl (by rw [infoLk]; rfl)) rfl ?_
                  exact FZ.out.post (by omega)
          · skip
            go_simp
            refine hK _ _ ?_
            clear hK K
            have E44 := Lib.hid (E8.out.next (alloc_belowX uu (.cells #[.int .i64 0, .int .i64 1001] 3)))
            have D44 := Lib.hid (D8.out.alloc (.cells #[.int .i64 0, .int .i64 1001] 3))
            have C44 := Lib.hid (lit2_new uu D8.out.lt)
            generalize uu.alloc (.cells #[.int .i64 0, .int .i64 1001] 3) = u44 at E44 D44 C44 ⊢
            refine wpAny_ready (rs := [1, 6]) (by kernel_rfl) (by simp) (AllReady.cons rfl (fun K hK => ?_) (AllReady.cons rfl (fun K hK => ?_) AllReady.nil))
            · skip
              have ld45 := E44.out.var.g
              go_simp
              refine hK _ _ ?_
              clear hK K ld45
              refine wpAny_take (i := 2) (v := ?vv46) rfl (by kernel_rfl) (by kernel_rfl) (by kernel_rfl) (fun _ _ _ h => h) (Or.inl ⟨by kernel_rfl, ?hh46⟩) ?_
              case hh46 => intro w; go_simp; try with_reducible rfl
              go_simp
              refine wpAny_ready (rs := [3, 6]) (by kernel_rfl) (by simp) (AllReady.cons rfl (fun K hK => ?_) (AllReady.cons rfl (fun K hK => ?_) AllReady.nil))
              · skip
                have ld47 := E44.out.cell0 hi0 hv0
                go_simp
                refine hK _ _ ?_
                clear hK K ld47
                refine wpAny_ready (rs := [6]) (by kernel_rfl) (by simp) (AllReady.cons rfl (fun K hK => ?_) AllReady.nil)
                go_simp
                refine (pick_any R0 (p6 + 1 + 1) 2 u44 D44.out (by omega) (by omega) (by omega)).mono ?_
                rintro e u48 ⟨y48, ⟨hx48, hy48⟩, rfl, r48, g48⟩
                obtain ⟨kk, rfl⟩ := Int.eq_ofNat_of_zero_le hx48
                have hkk : kk < 2 := by omega
                have hkk' : (kk : Int) < 2 := by omega
                have E48 := Lib.hid (E44.out.pick D44.out g48)
                have D48 := Lib.hid r48
                have C48 := Lib.hid (C44.out.pick g48)
                clear r48 g48
                go_simp
                refine hK _ _ ?_
                clear hK K
                refine wpAny_take (i := 7) (v := ?vv49) rfl (by kernel_rfl) (by kernel_rfl) (by kernel_rfl) (fun _ _ _ h => h) (Or.inl ⟨by kernel_rfl, ?hh49⟩) ?_
                case hh49 => intro w; go_simp; try with_reducible rfl
                go_simp
                refine wpAny_ready (rs := [8]) (by kernel_rfl) (by simp) (AllReady.cons rfl (fun K hK => ?_) AllReady.nil)
                obtain ⟨y, ld50⟩ := C48.out.2.2 kk hkk
                go_simp
                refine hK _ _ ?_
                clear hK K ld50
                refine wpAny_take (i := 9) (v := ?vv51) rfl (by kernel_rfl) (by kernel_rfl) (by kernel_rfl) (fun _ _ _ h => h) (Or.inl ⟨by kernel_rfl, ?hh51⟩) ?_
                case hh51 => intro w; go_simp; try with_reducible rfl
                go_simp
                obtain ⟨⟨x0, st0⟩, sf0⟩ := E48.out.row0 hR0' HL0.out
                refine wpAny_ready (rs := [10]) (by kernel_rfl) (by simp) (AllReady.cons rfl (fun K hK => ?_) AllReady.nil)
                go_simp
                refine hK _ _ ?_
                clear hK K st0 sf0
                refine wpAny_done (by kernel_rfl) ?_ _
                have FZ := E48.out.setRow0 D48.out hR0' hM4.2 y
                obtain ⟨RZ, hRZ⟩ : ∃ RZ, RZ = R.set 0 ((rwI R 0).set 0 y) := ⟨_, rfl⟩
                rw [← hRZ] at FZ
                clear hRZ
                have FZ := Lib.hid FZ
                have vg := FZ.out.var.g
                have vn := FZ.out.var.n
                have vt := FZ.out.var.t
                have rg := FZ.out.res.g
                have rn := FZ.out.res.n
                have rt := FZ.out.res.t
                have rf := FZ.out.res.f
                go_wp2
                refine bodyPost_ret (results_cell_row (P := Try.prog) rfl _ _ w.heap.size 25 _ (0, 0) _ rfl FZ.out.heap Try.underlying25 rfl (by rw [infoLk]; rfl)) rfl ?_
                exact FZ.out.post (by omega)
              · skip
                go_simp
                refine (pick_any R0 (p6 + 1 + 1) 2 u44 D44.out (by omega) (by omega) (by omega)).mono ?_
                rintro e u52 ⟨y52, ⟨hx52, hy52⟩, rfl, r52, g52⟩
                obtain ⟨kk, rfl⟩ := Int.eq_ofNat_of_zero_le hx52
                have hkk : kk < 2 := by omega
                have hkk' : (kk : Int) < 2 := by omega
                have E52 := Lib.hid (E44.out.pick D44.out g52)
                have D52 := Lib.hid r52
                have C52 := Lib.hid (C44.out.pick g52)
                clear r52 g52
                go_simp
                refine hK _ _ ?_
                clear hK K
                refine wpAny_take (i := 7) (v := ?vv53) rfl (by kernel_rfl) (by kernel_rfl) (by kernel_rfl) (fun _ _ _ h => h) (Or.inl ⟨by kernel_rfl, ?hh53⟩) ?_
                case hh53 => intro w; go_simp; try with_reducible rfl
                go_simp
                refine wpAny_ready (rs := [3, 8]) (by kernel_rfl) (by simp) (AllReady.cons rfl (fun K hK => ?_) (AllReady.cons rfl (fun K hK => ?_) AllReady.nil))
                · skip
                  have ld54 := E52.out.cell0 hi0 hv0
                  go_simp
                  refine hK _ _ ?_
                  clear hK K ld54
                  refine wpAny_ready (rs := [8]) (by kernel_rfl) (by simp) (AllReady.cons rfl (fun K hK => ?_) AllReady.nil)
                  obtain ⟨y, ld55⟩ := C52.out.2.2 kk hkk
                  go_simp
                  refine hK _ _ ?_
                  clear hK K ld55
                  refine wpAny_take (i := 9) (v := ?vv56) rfl (by kernel_rfl) (by kernel_rfl) (by kernel_rfl) (fun _ _ _ h => h) (Or.inl ⟨by kernel_rfl, ?hh56⟩) ?_
                  case hh56 => intro w; go_simp; try with_reducible rfl
                  go_simp
                  obtain ⟨⟨x0, st0⟩, sf0⟩ := E52.out.row0 hR0' HL0.out
                  refine wpAny_ready (rs := [10]) (by kernel_rfl) (by simp) (AllReady.cons rfl (fun K hK => ?_) AllReady.nil)
                  go_simp
                  refine hK _ _ ?_
                  clear hK K st0 sf0
                  refine wpAny_done (by kernel_rfl) ?_ _
                  have FZ := E52.out.setRow0 D52.out hR0' hM4.2 y
                  obtain ⟨RZ, hRZ⟩ : ∃ RZ, RZ = R.set 0 ((rwI R 0).set 0 y) := ⟨_, rfl⟩
                  rw [← hRZ] at FZ
                  clear hRZ
                  have FZ := Lib.hid FZ
                  have vg := FZ.out.var.g
                  have vn := FZ.out.var.n
                  have vt := FZ.out.var.t
                  have rg := FZ.out.res.g
                  have rn := FZ.out.res.n
                  have rt := FZ.out.res.t
                  have rf := FZ.out.res.f
                  go_wp2
                  refine bodyPost_ret (results_cell_row (P := Try.prog) rfl _ _ w.heap.size 25 _ (0, 0) _ rfl FZ.out.heap Try.underlying25 rfl (by rw [infoLk]; rfl)) rfl ?_
                  exact FZ.out.post (by omega)
                · skip
                  obtain ⟨y, ld57⟩ := C52.out.2.2 kk hkk
                  go_simp
                  refine hK _ _ ?_
                  clear hK K ld57
                  refine wpAny_ready (rs := [3]) (by kernel_rfl) (by simp) (AllReady.cons rfl (fun K hK => ?_) AllReady.nil)
                  have ld58 := E52.out.cell0 hi0 hv0
                  go_simp
                  refine hK _ _ ?_
                  clear hK K ld58
                  refine wpAny_take (i := 9) (v := ?vv59) rfl (by kernel_rfl) (by kernel_rfl) (by kernel_rfl) (fun _ _ _ h => h) (Or.inl ⟨by kernel_rfl, ?hh59⟩) ?_
                  case hh59 => intro w; go_simp; try with_reducible rfl
                  go_simp
                  obtain ⟨⟨x0, st0⟩, sf0⟩ := E52.out.row0 hR0' HL0.out
                  refine wpAny_ready (rs := [10]) (by kernel_rfl) (by simp) (AllReady.cons rfl (fun K hK => ?_) AllReady.nil)
                  go_simp
                  refine hK _ _ ?_
                  clear hK K st0 sf0
                  refine wpAny_done (by kernel_rfl) ?_ _
                  have FZ := E52.out.setRow0 D52.out hR0' hM4.2 y
                  obtain ⟨RZ, hRZ⟩ : ∃ RZ, RZ = R.set 0 ((rwI R 0).set 0 y) := ⟨_, rfl⟩
                  rw [← hRZ] at FZ
                  clear hRZ
                  have FZ := Lib.hid FZ
                  have vg := FZ.out.var.g
                  have vn := FZ.out.var.n
                  have vt := FZ.out.var.t
                  have rg := FZ.out.res.g
                  have rn := FZ.out.res.n
                  have rt := FZ.out.res.t
                  have rf := FZ.out.res.f
                  go_wp2
                  refine bodyPost_ret (results_cell_row (P := Try.prog) rfl _ _ w.heap.size 25 _ (0, 0) _ rfl FZ.out.heap Try.underlying25 rfl (by rw [infoLk]; rfl)) rfl ?_
                  exact FZ.out.post (by omega)
            · skip
              go_simp
              refine (pick_any R0 (p6 + 1 + 1) 2 u44 D44.out (by omega) (by omega) (by omega)).mono ?_
              rintro e u60 ⟨y60, ⟨hx60, hy60⟩, rfl, r60, g60⟩
              obtain ⟨kk, rfl⟩ := Int.eq_ofNat_of_zero_le hx60
              have hkk : kk < 2 := by omega
              have hkk' : (kk : Int) < 2 := by omega
              have E60 := Lib.hid (E44.out.pick D44.out g60)
              have D60 := Lib.hid r60
              have C60 := Lib.hid (C44.out.pick g60)
              clear r60 g60
              go_simp
              refine hK _ _ ?_
              clear hK K
              refine wpAny_take (i := 7) (v := ?vv61) rfl (by kernel_rfl) (by kernel_rfl) (by kernel_rfl) (fun _ _ _ h => h) (Or.inl ⟨by kernel_rfl, ?hh61⟩) ?_
              case hh61 => intro w; go_simp; try with_reducible rfl
              go_simp
              refine wpAny_ready (rs := [1, 8]) (by kernel_rfl) (by simp) (AllReady.cons rfl (fun K hK => ?_) (AllReady.cons rfl (fun K hK => ?_) AllReady.nil))
              · skip
                have ld62 := E60.out.var.g
                go_simp
                refine hK _ _ ?_
                clear hK K ld62
                refine wpAny_take (i := 2) (v := ?vv63) rfl (by kernel_rfl) (by kernel_rfl) (by kernel_rfl) (fun _ _ _ h => h) (Or.inl ⟨by kernel_rfl, ?hh63⟩) ?_
                case hh63 => intro w; go_simp; try with_reducible rfl
                go_simp
                refine wpAny_ready (rs := [3, 8]) (by kernel_rfl) (by simp) (AllReady.cons rfl (fun K hK => ?_) (AllReady.cons rfl (fun K hK => ?_) AllReady.nil))
                · skip
                  have ld64 := E60.out.cell0 hi0 hv0
                  go_simp
                  refine hK _ _ ?_
                  clear hK K ld64
                  refine wpAny_ready (rs := [8]) (by kernel_rfl) (by simp) (AllReady.cons rfl (fun K hK => ?_) AllReady.nil)
                  obtain ⟨y, ld65⟩ := C60.out.2.2 kk hkk
                  go_simp
                  refine hK _ _ ?_
                  clear hK K ld65
                  refine wpAny_take (i := 9) (v := ?vv66) rfl (by kernel_rfl) (by kernel_rfl) (by kernel_rfl) (fun _ _ _ h => h) (Or.inl ⟨by kernel_rfl, ?hh66⟩) ?_
                  case hh66 => intro w; go_simp; try with_reducible rfl
                  go_simp
                  obtain ⟨⟨x0, st0⟩, sf0⟩ := E60.out.row0 hR0' HL0.out
                  refine wpAny_ready (rs := [10]) (by kernel_rfl) (by simp) (AllReady.cons rfl (fun K hK => ?_) AllReady.nil)
                  go_simp
                  refine hK _ _ ?_
                  clear hK K st0 sf0
                  refine wpAny_done (by kernel_rfl) ?_ _
                  have FZ := E60.out.setRow0 D60.out hR0' hM4.2 y
                  obtain ⟨RZ, hRZ⟩ : ∃ RZ, RZ = R.set 0 ((rwI R 0).set 0 y) := ⟨_, rfl⟩
                  rw [← hRZ] at FZ
                  clear hRZ
                  have FZ := Lib.hid FZ
                  have vg := FZ.out.var.g
                  have vn := FZ.out.var.n
                  have vt := FZ.out.var.t
                  have rg := FZ.out.res.g
                  have rn := FZ.out.res.n
                  have rt := FZ.out.res.t
                  have rf := FZ.out.res.f
                  go_wp2
                  refine bodyPost_ret (results_cell_row (P := Try.prog) rfl _ _ w.heap.size 25 _ (0, 0) _ rfl FZ.out.heap Try.underlying25 rfl (by rw [infoLk]; rfl)) rfl ?_
                  exact FZ.out.post (by omega)
                · skip
                  obtain ⟨y, ld67⟩ := C60.out.2.2 kk hkk
                  go_simp
                  refine hK _ _ ?_
                  clear hK K ld67
                  refine wpAny_ready (rs := [3]) (by kernel_rfl) (by simp) (AllReady.cons rfl (fun K hK => ?_) AllReady.nil)
                  have ld68 := E60.out.cell0 hi0 hv0
                  go_simp
                  refine hK _ _ ?_
                  clear hK K ld68
                  refine wpAny_take (i := 9) (v := ?vv69) rfl (by kernel_rfl) (by kernel_rfl) (by kernel_rfl) (fun _ _ _ h => h) (Or.inl ⟨by kernel_rfl, ?hh69⟩) ?_
                  case hh69 => intro w; go_simp; try with_reducible rfl
                  go_simp
                  obtain ⟨⟨x0, st0⟩, sf0⟩ := E60.out.row0 hR0' HL0.out
                  refine wpAny_ready (rs := [10]) (by kernel_rfl) (by simp) (AllReady.cons rfl (fun K hK => ?_) AllReady.nil)
                  go_simp
                  refine hK _ _ ?_
                  clear hK K st0 sf0
                  refine wpAny_done (by kernel_rfl) ?_ _
                  have FZ := E60.out.setRow0 D60.out hR0' hM4.2 y
                  obtain ⟨RZ, hRZ⟩ : ∃ RZ, RZ = R.set 0 ((rwI R 0).set 0 y) := ⟨_, rfl⟩
                  rw [← hRZ] at FZ
                  clear hRZ
                  have FZ := Lib.hid FZ
                  have vg := FZ.out.var.g
                  have vn := FZ.out.var.n
                  have vt := FZ.out.var.t
                  have rg := FZ.out.res.g
                  have rn := FZ.out.res.n
                  have rt := FZ.out.res.t
                  have rf := FZ.out.res.f
                  go_wp2
                  refine bodyPost_ret (results_cell_row (P := Try.prog) rfl _ _ w.heap.size 25 _ (0, 0) _ rfl FZ.out.heap Try.underlying25 rfl (by rw [infoLk]; rfl)) rfl ?_
                  exact FZ.out.post (by omega)
              · skip
                obtain ⟨y, ld70⟩ := C60.out.2.2 kk hkk
                go_simp
                refine hK _ _ ?_
                clear hK K ld70
                refine wpAny_ready (rs := [1]) (by kernel_rfl) (by simp) (AllReady.cons rfl (fun K hK => ?_) AllReady.nil)
                have ld71 := E60.out.var.g
                go_simp
                refine hK _ _ ?_
                clear hK K ld71
                refine wpAny_take (i := 2) (v := ?vv72) rfl (by kernel_rfl) (by kernel_rfl) (by kernel_rfl) (fun _ _ _ h => h) (Or.inl ⟨by kernel_rfl, ?hh72⟩) ?_
                case hh72 => intro w; go_simp; try with_reducible rfl
                go_simp
                refine wpAny_ready (rs := [3]) (by kernel_rfl) (by simp) (AllReady.cons rfl (fun K hK => ?_) AllReady.nil)
                have ld73 := E60.out.cell0 hi0 hv0
                go_simp
                refine hK _ _ ?_
                clear hK K ld73
                refine wpAny_take (i := 9) (v := ?vv74) rfl (by kernel_rfl) (by kernel_rfl) (by kernel_rfl) (fun _ _ _ h => h) (Or.inl ⟨by kernel_rfl, ?hh74⟩) ?_
                case hh74 => intro w; go_simp; try with_reducible rfl
                go_simp
                obtain ⟨⟨x0, st0⟩, sf0⟩ := E60.out.row0 hR0' HL0.out
                refine wpAny_ready (rs := [10]) (by kernel_rfl) (by simp) (AllReady.cons rfl (fun K hK => ?_) AllReady.nil)
                go_simp
                refine hK _ _ ?_
                clear hK K st0 sf0
                refine wpAny_done (by kernel_rfl) ?_ _
                have FZ := E60.out.setRow0 D60.out hR0' hM4.2 y
                obtain ⟨RZ, hRZ⟩ : ∃ RZ, RZ = R.set 0 ((rwI R 0).set 0 y) := ⟨_, rfl⟩
                rw [← hRZ] at FZ
                clear hRZ
                have FZ := Lib.hid FZ
                have vg := FZ.out.var.g
                have vn := FZ.out.var.n
                have vt := FZ.out.var.t
                have rg := FZ.out.res.g
                have rn := FZ.out.res.n
                have rt := FZ.out.res.t
                have rf := FZ.out.res.f
                go_wp2
                refine bodyPost_ret (results_cell_row (P := Try.prog) rfl _ _ w.heap.size 25 _ (0, 0) _ rfl FZ.out.heap Try.underlying25 rfl (by rw [infoLk]; rfl)) rfl ?_
                exact FZ.out.post (by omega)
          · skip
            go_simp
            refine (pick_any R0 (p6 + 1 + 1) 2 uu D8.out (by omega) (by omega) (by omega)).mono ?_
            rintro e u75 ⟨y75, ⟨hx75, hy75⟩, rfl, r75, g75⟩
            obtain ⟨kk, rfl⟩ := Int.eq_ofNat_of_zero_le hx75
            have hkk : kk < 2 := by omega
            have hkk' : (kk : Int) < 2 := by omega
            have E75 := Lib.hid (E8.out.pick D8.out g75)
            have D75 := Lib.hid r75
            clear r75 g75
            go_simp
            refine hK _ _ ?_
            clear hK K
            refine wpAny_ready (rs := [1, 4]) (by kernel_rfl) (by simp) (AllReady.cons rfl (fun K hK => ?_) (AllReady.cons rfl (fun K hK => ?_) AllReady.nil))
            · skip
              have ld76 := E75.out.var.g
              go_simp
              refine hK _ _ ?_
              clear hK K ld76
              refine wpAny_take (i := 2) (v := ?vv77) rfl (by kernel_rfl) (by kernel_rfl) (by kernel_rfl) (fun _ _ _ h => h) (Or.inl ⟨by kernel_rfl, ?hh77⟩) ?_
              case hh77 => intro w; go_simp; try with_reducible rfl
              go_simp
              refine wpAny_ready (rs := [3, 4]) (by kernel_rfl) (by simp) (AllReady.cons rfl (fun K hK => ?_) (AllReady.cons rfl (fun K hK => ?_) AllReady.nil))
              · skip
                have ld78 := E75.out.cell0 hi0 hv0
                go_simp
                refine hK _ _ ?_
                clear hK K ld78
                refine wpAny_ready (rs := [4]) (by kernel_rfl) (by simp) (AllReady.cons rfl (fun K hK => ?_) AllReady.nil)
                go_simp
                refine hK _ _ ?_
                clear hK K
                have E79 := Lib.hid (E75.out.next (alloc_belowX u75 (.cells #[.int .i64 0, .int .i64 1001] 3)))
                have D79 := Lib.hid (D75.out.alloc (.cells #[.int .i64 0, .int .i64 1001] 3))
                have C79 := Lib.hid (lit2_new u75 D75.out.lt)
                generalize u75.alloc (.cells #[.int .i64 0, .int .i64 1001] 3) = u79 at E79 D79 C79 ⊢
                refine wpAny_take (i := 7) (v := ?vv80) rfl (by kernel_rfl) (by kernel_rfl) (by kernel_rfl) (fun _ _ _ h => h) (Or.inl ⟨by kernel_rfl, ?hh80⟩) ?_
                case hh80 => intro w; go_simp; try with_reducible rfl
                go_simp
                refine wpAny_ready (rs := [8]) (by kernel_rfl) (by simp) (AllReady.cons rfl (fun K hK => ?_) AllReady.nil)
                obtain ⟨y, ld81⟩ := C79.out.2.2 kk hkk
                go_simp
                refine hK _ _ ?_
                clear hK K ld81
                refine wpAny_take (i := 9) (v := ?vv82) rfl (by kernel_rfl) (by kernel_rfl) (by kernel_rfl) (fun _ _ _ h => h) (Or.inl ⟨by kernel_rfl, ?hh82⟩) ?_
                case hh82 => intro w; go_simp; try with_reducible rfl
                go_simp
                obtain ⟨⟨x0, st0⟩, sf0⟩ := E79.out.row0 hR0' HL0.out
                refine wpAny_ready (rs := [10]) (by kernel_rfl) (by simp) (AllReady.cons rfl (fun K hK => ?_) AllReady.nil)
                go_simp
                refine hK _ _ ?_
                clear hK K st0 sf0
                refine wpAny_done (by kernel_rfl) ?_ _
                have FZ := E79.out.setRow0 D79.out hR0' hM4.2 y
                obtain ⟨RZ, hRZ⟩ : ∃ RZ, RZ = R.set 0 ((rwI R 0).set 0 y) := ⟨_, rfl⟩
                rw [← hRZ] at FZ
                clear hRZ
                have FZ := Lib.hid FZ
                have vg := FZ.out.var.g
                have vn := FZ.out.var.n
                have vt := FZ.out.var.t
                have rg := FZ.out.res.g
                have rn := FZ.out.res.n
                have rt := FZ.out.res.t
                have rf := FZ.out.res.f
                go_wp2
                refine bodyPost_ret (results_cell_row (P := Try.prog) rfl _ _ w.heap.size 25 _ (0, 0) _ rfl FZ.out.heap Try.underlying25 rfl (by rw [infoLk]; rfl)) rfl ?_
                exact FZ.out.post (by omega)
              · skip
                go_simp
                refine hK _ _ ?_
                clear hK K
                have E83 := Lib.hid (E75.out.next (alloc_belowX u75 (.cells #[.int .i64 0, .int .i64 1001] 3)))
                have D83 := Lib.hid (D75.out.alloc (.cells #[.int .i64 0, .int .i64 1001] 3))
                have C83 := Lib.hid (lit2_new u75 D75.out.lt)
                generalize u75.alloc (.cells #[.int .i64 0, .int .i64 1001] 3) = u83 at E83 D83 C83 ⊢
                refine wpAny_take (i := 7) (v := ?vv84) rfl (by kernel_rfl) (by kernel_rfl) (by kernel_rfl) (fun _ _ _ h => h) (Or.inl ⟨by kernel_rfl, ?hh84⟩) ?_
                case hh84 => intro w; go_simp; try with_reducible rfl
                go_simp
                refine wpAny_ready (rs := [3, 8]) (by kernel_rfl) (by simp) (AllReady.cons rfl (fun K hK => ?_) (AllReady.cons rfl (fun K hK => ?_) AllReady.nil))
                · skip
                  have ld85 := E83.out.cell0 hi0 hv0
                  go_simp
                  refine hK _ _ ?_
                  clear hK K ld85
                  refine wpAny_ready (rs := [8]) (by kernel_rfl) (by simp) (AllReady.cons rfl (fun K hK => ?_) AllReady.nil)
                  obtain ⟨y, ld86⟩ := C83.out.2.2 kk hkk
                  go_simp
                  refine hK _ _ ?_
                  clear hK K ld86
                  refine wpAny_take (i := 9) (v := ?vv87) rfl (by kernel_rfl) (by kernel_rfl) (by kernel_rfl) (fun _ _ _ h => h) (Or.inl ⟨by kernel_rfl, ?hh87⟩) ?_
                  case hh87 => intro w; go_simp; try with_reducible rfl
                  go_simp
                  obtain ⟨⟨x0, st0⟩, sf0⟩ := E83.out.row0 hR0' HL0.out
                  refine wpAny_ready (rs := [10]) (by kernel_rfl) (by simp) (AllReady.cons rfl (fun K hK => ?_) AllReady.nil)
                  go_simp
                  refine hK _ _ ?_
                  clear hK K st0 sf0
                  refine wpAny_done (by kernel_rfl) ?_ _
                  have FZ := E83.out.setRow0 D83.out hR0' hM4.2 y
                  obtain ⟨RZ, hRZ⟩ : ∃ RZ, RZ = R.set 0 ((rwI R 0).set 0 y) := ⟨_, rfl⟩
                  rw [← hRZ] at FZ
                  clear hRZ
                  have FZ := Lib.hid FZ
                  have vg := FZ.out.var.g
                  have vn := FZ.out.var.n
                  have vt := FZ.out.var.t
                  have rg := FZ.out.res.g
                  have rn := FZ.out.res.n
                  have rt := FZ.out.res.t
                  have rf := FZ.out.res.f
                  go_wp2
                  refine bodyPost_ret (results_cell_row (P := Try.prog) rfl _ _ w.heap.size 25 _ (0, 0) _ rfl FZ.out.heap Try.underlying25 rfl (by rw [infoLk]; rfl)) rfl ?_
                  exact FZ.out.post (by omega)
                · skip
                  obtain ⟨y, ld88⟩ := C83.out.2.2 kk hkk
                  go_simp
                  refine hK _ _ ?_
                  clear hK K ld88
                  refine wpAny_ready (rs := [3]) (by kernel_rfl) (by simp) (AllReady.cons rfl (fun K hK => ?_) AllReady.nil)
                  have ld89 := E83.out.cell0 hi0 hv0
                  go_simp
                  refine hK _ _ ?_
                  clear hK K ld89
                  refine wpAny_take (i := 9) (v := ?vv90) rfl (by kernel_rfl) (by kernel_rfl) (by kernel_rfl) (fun _ _ _ h => h) (Or.inl ⟨by kernel_rfl, ?hh90⟩) ?_
                  case hh90 => intro w; go_simp; try with_reducible rfl
                  go_simp
                  obtain ⟨⟨x0, st0⟩, sf0⟩ := E83.out.row0 hR0' HL0.out
                  refine wpAny_ready (rs := [10]) (by kernel_rfl) (by simp) (AllReady.cons rfl (fun K hK => ?_) AllReady.nil)
                  go_simp
                  refine hK _ _ ?_
                  clear hK K st0 sf0
                  refine wpAny_done (by kernel_rfl) ?_ _
                  have FZ := E83.out.setRow0 D83.out hR0' hM4.2 y
                  obtain ⟨RZ, hRZ⟩ : ∃ RZ, RZ = R.set 0 ((rwI R 0).set 0 y) := ⟨_, rfl⟩
                  rw [← hRZ] at FZ
                  clear hRZ
                  have FZ := Lib.hid FZ
                  have vg := FZ.out.var.g
                  have vn := FZ.out.var.n
                  have vt := FZ.out.var.t
                  have rg := FZ.out.res.g
                  have rn := FZ.out.res.n
                  have rt := FZ.out.res.t
                  have rf := FZ.out.res.f
                  go_wp2
                  refine bodyPost_ret (results_cell_row (P := Try.prog) rfl _ _ w.heap.size 25 _ (0, 0) _ rfl FZ.out.heap Try.underlying25 rfl (by rw [infoLk]; rfl)) rfl ?_
                  exact FZ.out.post (by omega)
            · skip
              go_simp
              refine hK _ _ ?_
              clear hK K
              have E91 := Lib.hid (E75.out.next (alloc_belowX u75 (.cells #[.int .i64 0, .int .i64 1001] 3)))
              have D91 := Lib.hid (D75.out.alloc (.cells #[.int .i64 0, .int .i64 1001] 3))
              have C91 := Lib.hid (lit2_new u75 D75.out.lt)
              generalize u75.alloc (.cells #[.int .i64 0, .int .i64 1001] 3) = u91 at E91 D91 C91 ⊢
              refine wpAny_take (i := 7) (v := ?vv92) rfl (by kernel_rfl) (by kernel_rfl) (by kernel_rfl) (fun _ _ _ h => h) (Or.inl ⟨by kernel_rfl, ?hh92⟩) ?_
              case hh92 => intro w; go_simp; try with_reducible rfl
              go_simp
              refine wpAny_ready (rs := [1, 8]) (by kernel_rfl) (by simp) (AllReady.cons rfl (fun K hK => ?_) (AllReady.cons rfl (fun K hK => ?_) AllReady.nil))
              · skip
                have ld93 := E91.out.var.g
                go_simp
                refine hK _ _ ?_
                clear hK K ld93
                refine wpAny_take (i := 2) (v := ?vv94) rfl (by kernel_rfl) (by kernel_rfl) (by kernel_rfl) (fun _ _ _ h => h) (Or.inl ⟨by kernel_rfl, ?hh94⟩) ?_
                case hh94 => intro w; go_simp; try with_reducible rfl
                go_simp
                refine wpAny_ready (rs := [3, 8]) (by kernel_rfl) (by simp) (AllReady.cons rfl (fun K hK => ?_) (AllReady.cons rfl (fun K hK => ?_) AllReady.nil))
                · skip
                  have ld95 := E91.out.cell0 hi0 hv0
                  go_simp
                  refine hK _ _ ?_
                  clear hK K ld95
                  refine wpAny_ready (rs := [8]) (by kernel_rfl) (by simp) (AllReady.cons rfl (fun K hK => ?_) AllReady.nil)
                  obtain ⟨y, ld96⟩ := C91.out.2.2 kk hkk
                  go_simp
                  refine hK _ _ ?_
                  clear hK K ld96
                  refine wpAny_take (i := 9) (v := ?vv97) rfl (by kernel_rfl) (by kernel_rfl) (by kernel_rfl) (fun _ _ _ h => h) (Or.inl ⟨by kernel_rfl, ?hh97⟩) ?_
                  case hh97 => intro w; go_simp; try with_reducible rfl
                  go_simp
                  obtain ⟨⟨x0, st0⟩, sf0⟩ := E91.out.row0 hR0' HL0.out
                  refine wpAny_ready (rs := [10]) (by kernel_rfl) (by simp) (AllReady.cons rfl (fun K hK => ?_) AllReady.nil)
                  go_simp
                  refine hK _ _ ?_
                  clear hK K st0 sf0
                  refine wpAny_done (by kernel_rfl) ?_ _
                  have FZ := E91.out.setRow0 D91.out hR0' hM4.2 y
                  obtain ⟨RZ, hRZ⟩ : ∃ RZ, RZ = R.set 0 ((rwI R 0).set 0 y) := ⟨_, rfl⟩
                  rw [← hRZ] at FZ
                  clear hRZ
                  have FZ := Lib.hid FZ
                  have vg := FZ.out.var.g
                  have vn := FZ.out.var.n
                  have vt := FZ.out.var.t
                  have rg := FZ.out.res.g
                  have rn := FZ.out.res.n
                  have rt := FZ.out.res.t
                  have rf := FZ.out.res.f
                  go_wp2
                  refine bodyPost_ret (results_cell_row (P := Try.prog) rfl _ _ w.heap.size 25 _ (0, 0) _ rfl FZ.out.heap Try.underlying25 rfl (by rw [infoLk]; rfl)) rfl ?_
                  exact FZ.out.post (by omega)
                · skip
                  obtain ⟨y, ld98⟩ := C91.out.2.2 kk hkk
                  go_simp
                  refine hK _ _ ?_
                  clear hK K ld98
                  refine wpAny_ready (rs := [3]) (by kernel_rfl) (by simp) (AllReady.cons rfl (fun K hK => ?_) AllReady.nil)
                  have ld99 := E91.out.cell0 hi0 hv0
                  go_simp
                  refine hK _ _ ?_
                  clear hK K ld99
                  refine wpAny_take (i := 9) (v := ?vv100) rfl (by kernel_rfl) (by kernel_rfl) (by kernel_rfl) (fun _ _ _ h => h) (Or.inl ⟨by kernel_rfl, ?hh100⟩) ?_
                  case hh100 => intro w; go_simp; try with_reducible rfl
                  go_simp
                  obtain ⟨⟨x0, st0⟩, sf0⟩ := E91.out.row0 hR0' HL0.out
                  refine wpAny_ready (rs := [10]) (by kernel_rfl) (by simp) (AllReady.cons rfl (fun K hK => ?_) AllReady.nil)
                  go_simp
                  refine hK _ _ ?_
                  clear hK K st0 sf0
                  refine wpAny_done (by kernel_rfl) ?_ _
                  have FZ := E91.out.setRow0 D91.out hR0' hM4.2 y
                  obtain ⟨RZ, hRZ⟩ : ∃ RZ, RZ = R.set 0 ((rwI R 0).set 0 y) := ⟨_, rfl⟩
                  rw [← hRZ] at FZ
                  clear hRZ
                  have FZ := Lib.hid FZ
                  have vg := FZ.out.var.g
                  have vn := FZ.out.var.n
                  have vt := FZ.out.var.t
                  have rg := FZ.out.res.g
                  have rn := FZ.out.res.n
                  have rt := FZ.out.res.t
                  have rf := FZ.out.res.f
                  go_wp2
                  refine bodyPost_ret (results_cell_row (P := Try.prog) rfl _ _ w.heap.size 25 _ (0, 0) _ rfl FZ.out.heap Try.underlying25 rfl (by rw [infoLk]; rfl)) rfl ?_
                  exact FZ.out.post (by omega)
              · skip
                obtain ⟨y, ld101⟩ := C91.out.2.2 kk hkk
                go_simp
                refine hK _ _ ?_
                clear hK K ld101
                refine wpAny_ready (rs := [1]) (by kernel_rfl) (by simp) (AllReady.cons rfl (fun K hK => ?_) AllReady.nil)
                have ld102 := E91.out.var.g
                go_simp
                refine hK _ _ ?_
                clear hK K ld102
                refine wpAny_take (i := 2) (v := ?vv103) rfl (by kernel_rfl) (by kernel_rfl) (by kernel_rfl) (fun _ _ _ h => h) (Or.inl ⟨by kernel_rfl, ?hh103⟩) ?_
                case hh103 => intro w; go_simp; try with_reducible rfl
                go_simp
                refine wpAny_ready (rs := [3]) (by kernel_rfl) (by simp) (AllReady.cons rfl (fun K hK => ?_) AllReady.nil)
                have ld104 := E91.out.cell0 hi0 hv0
                go_simp
                refine hK _ _ ?_
                clear hK K ld104
                refine wpAny_take (i := 9) (v := ?vv105) rfl (by kernel_rfl) (by kernel_rfl) (by kernel_rfl) (fun _ _ _ h => h) (Or.inl ⟨by kernel_rfl, ?hh105⟩) ?_
                case hh105 => intro w; go_simp; try with_reducible rfl
                go_simp
                obtain ⟨⟨x0, st0⟩, sf0⟩ := E91.out.row0 hR0' HL0.out
                refine wpAny_ready (rs := [10]) (by kernel_rfl) (by simp) (AllReady.cons rfl (fun K hK => ?_) AllReady.nil)
                go_simp
                refine hK _ _ ?_
                clear hK K st0 sf0
                refine wpAny_done (by kernel_rfl) ?_ _
                have FZ := E91.out.setRow0 D91.out hR0' hM4.2 y
                obtain ⟨RZ, hRZ⟩ : ∃ RZ, RZ = R.set 0 ((rwI R 0).set 0 y) := ⟨_, rfl⟩
                rw [← hRZ] at FZ
                clear hRZ
                have FZ := Lib.hid FZ
                have vg := FZ.out.var.g
                have vn := FZ.out.var.n
                have vt := FZ.out.var.t
                have rg := FZ.out.res.g
                have rn := FZ.out.res.n
                have rt := FZ.out.res.t
                have rf := FZ.out.res.f
                go_wp2
                refine bodyPost_ret (results_cell_row (P := Try.prog) rfl _ _ w.heap.size 25 _ (0, 0) _ rfl FZ.out.heap Try.underlying25 rfl (by rw [infoLk]; rfl)) rfl ?_
                exact FZ.out.post (by omega)
        · skip
          obtain ⟨gG, hgG⟩ : ∃ gG, aG = some ⟨gG, 0, none⟩ := by
            obtain ⟨g, _, e, _⟩ := E8.out.gr.at_ (by omega)
            exact ⟨g, e⟩
          subst hgG
          have hRl := Lib.hid E8.out.len
          have hR0' : 0 < R.length := by rw [hRl.out]; omega
          have hi0 : 0 < M := by omega
          have hl0 : 0 < (rwI R 0).length := by rw [HLn.out 0 hR0']; omega
          obtain ⟨cap0, hv0, hrow0⟩ := E8.out.rows 0 hR0'
          obtain ⟨n0, hn0⟩ : ∃ n0, n0 = (rwI R 0).length := ⟨_, rfl⟩
          rw [← hn0] at hv0 hrow0
          have HG0 := Lib.hid ((hrow0.rebase (E8.out.lor 0 hR0')).alloc (.cells #[.int .i64 5] 3)).drew
          have HE := Lib.hid (E8.out.next (alloc_belowX w8 (.cells #[.int .i64 5] 3)))
          have HD := Lib.hid (D8.out.alloc (.cells #[.int .i64 5] 3))
          have HN0 := Lib.hid hn0
          have vg := E8.out.var.g
          have hc0 := E8.out.cell0 hi0 hv0
          have l1 := E8.out.var.lt
          have l2 : gG < w8.heap.size := World.block_lt_of_cell? _ _ hc0
          clear hn0 hrow0 F8
          have hn04 : n0 ≤ 4 := by rw [HN0.out, HLn.out 0 hR0']; exact hM4.2
          have HEd : Hid (LE w (w8.alloc (.cells #[.int .i64 5] 3)).drew R0 bx N T (some ⟨gG, 0, none⟩) M capG vs R blk) := Lib.hid (HE.out.next (below_drewN (Below.refl _ _) 1))
          have HDd : Hid (Rd (w8.alloc (.cells #[.int .i64 5] 3)).drew R0 (p6 + 1 + 1)) := HD
          have hbase : w.heap.size ≤ (w8.alloc (.cells #[.int .i64 5] 3)).drew.heap.size := HEd.out.g.size
          have HBase := Lib.hid hbase
          clear hbase HE HD
          go_wp2_with fail
          go_region_law (first
            | (refine step_appendG (.tmp 92) (.tmp 93) w.heap.size (blk 0) n0 cap0 (rwI R 0) ⟨w8.heap.size, 0, none⟩ 5 rfl rfl rfl rfl HG0.out (by simp) (by omega) HBase.out ?_; intro a2 cap2 w9 hg9 hb9; have FA := HEd.out.appRow0 HDd.out hR0' hM4.2 HG0.out hg9 hb9; obtain ⟨RZ, hRZ⟩ : ∃ RZ, RZ = R.set 0 (rwI R 0 ++ [5]) := ⟨_, rfl⟩; rw [← hRZ] at FA; clear hRZ; have FA := Lib.hid FA; have AA := HEd.out.afterApp hi0 hv0 hR0' hb9; have v9 := AA.1.g; have c9 := AA.2.1; have f9 := AA.2.2; clear AA hg9 hb9)
            | fail)
          all_goals
            skip
            have vg := FA.out.var.g
            have vn := FA.out.var.n
            have vt := FA.out.var.t
            have rg := FA.out.res.g
            have rn := FA.out.res.n
            have rt := FA.out.res.t
            have rf := FA.out.res.f
            go_wp2
            refine bodyPost_ret (results_cell_row (P := Try.prog) rfl _ _ w.heap.size 25 _ (0, 0) _ rfl FA.out.heap Try.underlying25 rfl (by rw [infoLk]; rfl)) rfl ?_
            exact FA.out.post (by omega)
        · have F9 := F8.out.none_
          have hvl := F8.out.var.lt
          have heq := World.setCell_alloc_past (w := w8) (.cells #[] 29) bx 0 (.slice (some ⟨w8.heap.size, 0, none⟩) 0 0) hvl
          rw [heq] at F9
          obtain ⟨RZ, hRZ⟩ : ∃ RZ : List (List Int), RZ = [] := ⟨_, rfl⟩
          rw [← hRZ] at F9
          have F9 := Lib.hid F9
          have wg := F8.out.var.g
          have wf := F8.out.var.f
          clear F8 D8 E8 heq hRZ
          go_upto_region 26 with (fail)
          clear wg wf
          generalize (w8.setCell ⟨bx, 0, none⟩ (.slice (some ⟨w8.heap.size, 0, none⟩) 0 0)).alloc (.cells #[] 29) = w9 at *
          have vg := F9.out.var.g
          have vn := F9.out.var.n
          have vt := F9.out.var.t
          have rg := F9.out.res.g
          have rn := F9.out.res.n
          have rt := F9.out.res.t
          have rf := F9.out.res.f
          go_wp2
          refine bodyPost_ret (results_cell_row (P := Try.prog) rfl _ _ w.heap.size 25 _ (0, 0) _ rfl F9.out.heap Try.underlying25 rfl (by rw [infoLk]; rfl)) rfl ?_
          exact F9.out.post (by omega)
end Go.Proofs.Ytgdfjbdpidileaa
