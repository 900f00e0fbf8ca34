/-
  What drawing a table of conflicts leaves: a list of rows that grows, the rows. No condition; plain lemmas.
-/
import Derived.Test.YtnmhiagnmfpipaaSk1
import Derived.Test.YtnmhiagnmfpipaaMem1
import Derived.Test.YtnmhiagnmfpipaaDraws
import Derived.Lib.BufferOwn
namespace Go.Proofs.Ytnmhiagnmfpipaa
open Go.RowKit

/-- A list of rows of Booleans in memory of its own. -/
def GVb (w : World) (base : Nat) (a : Option Addr) (n cap : Nat) (vs : List Value) : Prop := w.ownsRow base 39 1 (.slice a n cap) n vs
section
variable {w w' : World} {base n cap : Nat} {a : Option Addr} {vs : List Value}
theorem GVb.len (h : GVb w base a n cap vs) : vs.length = n := by simpa using h.1
theorem GVb.room (h : GVb w base a n cap vs) : n ≤ cap ∧ cap ≤ maxLen := by
  rcases h.2 with ⟨e, h0⟩ | ⟨g, c, cur, e, hg, hh, hnc, hcm, _⟩
  · injection e with _ _ e
    subst e h0
    exact ⟨Nat.le_refl _, Nat.zero_le _⟩
  · injection e with _ _ e
    subst e
    exact ⟨hnc, hcm⟩
set_option maxRecDepth 10000 in
theorem GVb.lit0 (w : World) (base : Nat) (hb : base ≤ w.heap.size) : GVb (w.alloc (.cells #[] 39)) base (some ⟨w.heap.size, 0, none⟩) 0 0 [] :=
  ⟨rfl, .inr ⟨w.heap.size, 0, #[], rfl, hb, heap_alloc_last _ _, Nat.le_refl _, by simp, by simp, rfl⟩⟩
set_option maxRecDepth 10000 in
theorem GVb.at_ (h : GVb w base a n cap vs) (hp : 0 < n) : ∃ g cur, a = some ⟨g, 0, none⟩ ∧ base ≤ g ∧ w.heap[g]? = some (.cells cur 39 (0, 0)) ∧ ∀ i v, i < n → vs[i]? = some v → w.cell? ⟨g, i, none⟩ = some v := by
  rcases h.2 with ⟨_, h0⟩ | ⟨g, c, cur, e, hg, hh, hnc, hcm, hcs, htk⟩
  · omega
  · injection e with e1 e2 e3
    subst e1 e3
    rw [Nat.mul_one] at hcs htk
    refine ⟨g, cur, rfl, hg, hh, fun i v hi hv => ?_⟩
    rw [cell_of_row _ _ _ _ _ _ hh]
    have h1 : (cur.toList.take n)[i]? = vs[i]? := by rw [htk]
    rw [List.getElem?_take, if_pos hi, hv] at h1
    simpa using h1
set_option maxRecDepth 10000 in
theorem GVb.keep (h : GVb w base a n cap vs) (hk : ∀ (g : Nat) (c : Array Value), base ≤ g → w.heap[g]? = some (.cells c 39 (0, 0)) → w'.heap[g]? = w.heap[g]?) : GVb w' base a n cap vs := by
  refine ⟨h.1, ?_⟩
  rcases h.2 with h0 | ⟨g, c2, cur, e, h1, hh, rest⟩
  · exact .inl h0
  · exact .inr ⟨g, c2, cur, e, h1, (hk g _ h1 hh).trans hh, rest⟩
theorem GVb.next (h : GVb w base a n cap vs) (hb : Below w.heap.size w w') : GVb w' base a n cap vs := h.keep fun g _ _ hh => hb.block g (Array.getElem?_eq_some_iff.1 hh).1
set_option maxRecDepth 10000 in
theorem GVb.typed {b : Nat} {c : Array Value} {t' : TypeId} {fr : Nat × Nat} (h : GVb w base a n cap vs) (hg : w.grownBy w' (some b)) (hb : w.heap[b]? = some (.cells c t' fr)) (ht : t' ≠ 39) : GVb w' base a n cap vs :=
  h.keep fun g c2 _ hh => hg.block g (Array.getElem?_eq_some_iff.1 hh).1 fun e => by
    injection e with e
    subst e
    rw [hh] at hb
    injection hb with hb
    injection hb with _ hb _
    exact ht hb.symm
set_option maxRecDepth 10000 in
/-- An append to the list of rows leaves what is of another type. -/
theorem GVb.leaves (h : GVb w base a n cap vs) (hg : w.grownBy w' (Value.ownBlock (.slice a n cap))) {j : Nat} {c : Array Value} {t : TypeId} {fr : Nat × Nat} (hj : w.heap[j]? = some (.cells c t fr)) (ht : t ≠ 39) : w'.heap[j]? = w.heap[j]? := by
  refine hg.block j (Array.getElem?_eq_some_iff.1 hj).1 fun e => ?_
  rcases h.2 with ⟨h0, _⟩ | ⟨g, c2, cur, h0, h1, hh, rest⟩
  · rw [h0] at e; simp [Value.ownBlock] at e
  · rw [h0] at e
    simp [Value.ownBlock] at e
    subst e
    rw [hh] at hj
    injection hj with hj
    injection hj with _ hj _
    exact ht hj.symm
theorem GVb.keepsBelow (h : GVb w base a n cap vs) (hg : w.grownBy w' (Value.ownBlock (.slice a n cap))) (hb : base ≤ w.heap.size) : Below base w w' :=
  (Below.refl _ _).grown hg hb fun k hk => by
    rcases h.2 with ⟨h0, _⟩ | ⟨g, c2, cur, h0, h1, _⟩
    · rw [h0] at hk; simp [Value.ownBlock] at hk
    · rw [h0] at hk
      simp [Value.ownBlock] at hk
      omega
end
set_option maxRecDepth 10000 in
theorem Try.infoRowB : (Try.prog.info? 39).map (fun i => (i.zero, i.size, i.bytes)) = some (some (.slice none 0 0), 1, 24) := by kernel_rfl
section
variable {w : World} {ops : Array Oper} {rest : List Oper} {o : Oper} {a : Act} {Q : Exit → Act → World → Prop}
set_option maxRecDepth 10000 in
theorem wpList_appendVb (s x : Operand) (base : Nat) (A : Option Addr) (n cap : Nat) (vs : List Value) (ad : Addr) (a1 : Option Addr) (n1 c1 : Nat)
    (hgd : o.guard = none) (ho : o.op = .call { callee := .builtin .append, args := #[s, x], argTypes := #[38, 38] }) (hs : a.eval s = .slice A n cap) (hx : a.eval x = .slice (some ad) 1 1)
    (hg : GVb w base A n cap vs) (hc : w.cell? ad = some (.slice a1 n1 c1)) (hn : n < 1048576) (hb : base ≤ w.heap.size)
    (h : ∀ a' cap' w', GVb w' base a' (n + 1) cap' (vs ++ [.slice a1 n1 c1]) → w.grownBy w' (Value.ownBlock (.slice A n cap)) → wpList Try.prog ops Q rest (a.put o.dst (.slice a' (n + 1) cap')) w') : wpList Try.prog ops Q (o :: rest) a w := by
  obtain ⟨i0, hi0, hz0, hz1, hz2⟩ := info_parts Try.infoRowB
  refine wpList_append_own w hgd s x _ ho base 39 i0 (.slice none 0 0) 1 24 Try.underlying38 hi0 hz0 hz1 hz2 rfl (by omega) _ n _ hs hg ad 1 1 [.slice a1 n1 c1] hx rfl ?_ (by simp [Value.oneCell']) (by unfold maxLen; omega) (by omega) hb ?_
  · intro j u hj
    match j, hj with
    | 0, hj => simp at hj; subst hj; simpa [Addr.add] using hc
  · intro v' w' h2 h3 _
    rcases h2.2 with ⟨_, h0⟩ | ⟨g, c, cur, e, _⟩
    · omega
    · subst e
      exact h _ _ _ h2 h3
end
/-- A table in blocks from A on, below B. -/
def TbF (W : World) (A B : Nat) (a : Option Addr) (R : List (List Bool)) : Prop :=
  R ≠ [] → ∃ b off : Nat, a = some (⟨b, off, none⟩ : Addr) ∧ A ≤ b ∧ b < B ∧ ∀ i, i < R.length → ∃ ad cp, W.cell? ⟨b, off + i, none⟩ = some (.slice ad (rwB R i).length cp) ∧ (rwB R i).length ≤ cp ∧ cp ≤ maxLen ∧
    (rwB R i ≠ [] → ∃ b' off' : Nat, ad = some (⟨b', off', none⟩ : Addr) ∧ A ≤ b' ∧ b' < B ∧ ∀ j, j < (rwB R i).length → W.cell? ⟨b', off' + j, none⟩ = some (.bool (bt (rwB R i) j)))
section
variable {W W' : World} {A B B' : Nat} {a : Option Addr} {R : List (List Bool)}
theorem TbF.keep (h : TbF W A B a R) (hk : ∀ g, A ≤ g → g < B → W'.heap[g]? = W.heap[g]?) : TbF W' A B a R := fun hn => by
  obtain ⟨b, off, e, h1, h2, h3⟩ := h hn
  refine ⟨b, off, e, h1, h2, fun i hi => ?_⟩
  obtain ⟨ad, cp, k1, k2, k3, k4⟩ := h3 i hi
  refine ⟨ad, cp, (World.cell?_of_block (hk b h1 h2)).trans k1, k2, k3, fun hne => ?_⟩
  obtain ⟨b', off', e', m1, m2, m3⟩ := k4 hne
  exact ⟨b', off', e', m1, m2, fun j hj => (World.cell?_of_block (hk b' m1 m2)).trans (m3 j hj)⟩
theorem TbF.below (h : TbF W A B a R) (hb : Below B W W') : TbF W' A B a R := h.keep fun g _ hg => hb.block g hg
theorem TbF.pick {R0 : Nat} (h : TbF W A B a R) (hg : W.grownBy W' (some R0)) (h0 : R0 < A) (hB : B ≤ W.heap.size) : TbF W' A B a R := h.keep fun g h1 h2 => hg.block g (Nat.lt_of_lt_of_le h2 hB) fun e => by injection e; omega
theorem TbF.tbl (h : TbF W A B a R) : TbL W B a R := fun hn => by
  obtain ⟨b, off, e, h1, h2, h3⟩ := h hn
  refine ⟨b, off, e, h2, fun i hi => ?_⟩
  obtain ⟨ad, cp, k1, k2, k3, k4⟩ := h3 i hi
  refine ⟨ad, cp, k1, k2, k3, fun hne => ?_⟩
  obtain ⟨b', off', e', m1, m2, m3⟩ := k4 hne
  exact ⟨b', off', e', m2, m3⟩
end
/-- Drawing a table: m rows of n values, each in a block of its own. -/
structure CE (w W : World) (R0 : Nat) (a : Option Addr) (cap m n : Nat) (blk : Nat → Nat) (F : Nat → Nat → Bool) : Prop where
  gr : GVb W w.heap.size a m cap ((List.range m).map fun i => .slice (some ⟨blk i, 0, none⟩) n n)
  rows : ∀ i, i < m → W.rowIs (blk i) 4 n (fun j => .bool (F i j)) ∧ w.heap.size ≤ blk i
  inj : ∀ i j, i < m → j < m → blk i = blk j → i = j
  g : w.grownBy W (some R0)
  r0 : R0 < w.heap.size
section
variable {w W W' : World} {R0 : Nat} {a : Option Addr} {cap m n : Nat} {blk : Nat → Nat} {F : Nat → Nat → Bool}
theorem CE.pick (h : CE w W R0 a cap m n blk F) (hg : W.grownBy W' (some R0)) : CE w W' R0 a cap m n blk F := by
  have h0 := h.r0
  exact ⟨h.gr.keep fun g _ hb hh => hg.block g (Array.getElem?_eq_some_iff.1 hh).1 (fun e => by injection e; omega), fun i hi => by
    have h1 := h.rows i hi
    exact ⟨h1.1.of_block (hg.block _ h1.1.lt (fun e => by injection e; omega)), h1.2⟩, h.inj, grown_trans h.g hg, h0⟩
theorem CE.next (h : CE w W R0 a cap m n blk F) (hb : Below W.heap.size W W') : CE w W' R0 a cap m n blk F :=
  ⟨h.gr.next hb, fun i hi => by
    have h1 := h.rows i hi
    exact ⟨h1.1.of_block (hb.block _ h1.1.lt), h1.2⟩, h.inj, grown_below h.g hb h.g.size, h.r0⟩
/-- One value is written. -/
theorem CE.set (h : CE w W R0 a cap m n blk F) {i j : Nat} (hi : i < m) (_hj : j < n) (v : Bool) : ∃ F', CE w (W.setCell ⟨blk i, j, none⟩ (.bool v)) R0 a cap m n blk F' := by
  have h1 := h.rows i hi
  have hg := Lib.grownBy_setCell W (blk i) j (.bool v)
  obtain ⟨c, hc, _⟩ := h1.1
  refine ⟨fun x y => if x = i then (if y = j then v else F x y) else F x y, h.gr.typed hg hc (by decide), fun x hx => ?_, h.inj, ?_, h.r0⟩
  · by_cases e : x = i
    · subst e
      refine ⟨(h1.1.set j (.bool v)).congr fun y _ => ?_, h1.2⟩
      by_cases e2 : y = j <;> simp [e2]
    · have h2 := h.rows x hx
      refine ⟨(h2.1.of_block (hg.block _ h2.1.lt (fun e2 => by injection e2 with e2; exact e (h.inj x i hx hi e2)))).congr fun y _ => by simp [e], h2.2⟩
  · have hs := h1.2
    exact ⟨hg.os.trans h.g.os, hg.tape.trans h.g.tape, hg.output.trans h.g.output, Nat.le_trans h.g.size hg.size, fun k hk hne => (hg.block k (Nat.lt_of_lt_of_le hk h.g.size) (fun e => by injection e; omega)).trans (h.g.block k hk hne)⟩
set_option maxRecDepth 10000 in
/-- One row more, of false values. -/
theorem CE.app {a' : Option Addr} {cap' : Nat} (h : CE w W R0 a cap m n blk F)
    (h1 : GVb W' w.heap.size a' (m + 1) cap' (((List.range m).map fun i => .slice (some ⟨blk i, 0, none⟩) n n) ++ [.slice (some ⟨W.heap.size, 0, none⟩) n n]))
    (h2 : ((W.alloc (.cells (madeCells #[.bool false] n) 4)).alloc (.cells #[.slice (some ⟨W.heap.size, 0, none⟩) n n] 39)).grownBy W' (Value.ownBlock (.slice a m cap))) :
    CE w W' R0 a' cap' (m + 1) n (fun i => if i = m then W.heap.size else blk i) (fun i => if i = m then (fun _ => false) else F i) := by
  have hb2 : Below W.heap.size W ((W.alloc (.cells (madeCells #[.bool false] n) 4)).alloc (.cells #[.slice (some ⟨W.heap.size, 0, none⟩) n n] 39)) := ((Below.refl _ _).alloc (Nat.le_refl _) _).alloc (by simp) _
  have hN := h.next hb2
  have hnew : ((W.alloc (.cells (madeCells #[.bool false] n) 4)).alloc (.cells #[.slice (some ⟨W.heap.size, 0, none⟩) n n] 39)).rowIs W.heap.size 4 n (fun _ => .bool false) :=
    (World.rowIs_made W (.bool false) n 4).of_block (Below.heap_alloc _ _ _ (by simp))
  have hlv : ∀ (j : Nat) (f : Nat → Value), ((W.alloc (.cells (madeCells #[.bool false] n) 4)).alloc (.cells #[.slice (some ⟨W.heap.size, 0, none⟩) n n] 39)).rowIs j 4 n f → W'.rowIs j 4 n f := fun j f hr => by
    obtain ⟨c, hc, _⟩ := id hr
    exact hr.of_block (hN.gr.leaves h2 hc (by decide))
  have hlt : ∀ i, i < m → blk i < W.heap.size := fun i hi => (h.rows i hi).1.lt
  refine ⟨?_, fun i hi => ?_, fun i j hi hj e => ?_, grown_below hN.g (hN.gr.keepsBelow h2 hN.g.size) (Nat.le_refl _), h.r0⟩
  · have e : ((List.range (m + 1)).map fun i => Value.slice (some ⟨(if i = m then W.heap.size else blk i), 0, none⟩) n n) = ((List.range m).map fun i => .slice (some ⟨blk i, 0, none⟩) n n) ++ [.slice (some ⟨W.heap.size, 0, none⟩) n n] := by
      rw [List.range_succ, List.map_append]
      congr 1
      · refine List.map_congr_left fun i hi => ?_
        have := List.mem_range.1 hi
        rw [if_neg (by omega)]
      · simp
    rw [e]; exact h1
  · by_cases e : i = m
    · subst e
      simp only [if_true]
      exact ⟨hlv _ _ hnew, h.g.size⟩
    · simp only [e, if_false]
      have := hN.rows i (by omega)
      exact ⟨hlv _ _ this.1, this.2⟩
  · by_cases e1 : i = m
    · by_cases e2 : j = m
      · omega
      · simp only [e1, e2, if_true, if_false] at e
        have := hlt j (by omega); omega
    · by_cases e2 : j = m
      · simp only [e1, e2, if_true, if_false] at e
        have := hlt i (by omega); omega
      · simp only [e1, e2, if_false] at e
        exact h.inj i j (by omega) (by omega) e
/-- The table that was drawn. -/
def tbN (m n : Nat) (F : Nat → Nat → Bool) : List (List Bool) := (List.range m).map fun i => (List.range n).map (F i)
theorem tbN_len (m n : Nat) (F : Nat → Nat → Bool) : (tbN m n F).length = m := by simp [tbN]
theorem tbN_row {m n i : Nat} {F : Nat → Nat → Bool} (h : i < m) : rwB (tbN m n F) i = (List.range n).map (F i) := by simp [rwB, tbN, h]
theorem CE.out (h : CE w W R0 a cap m n blk F) (hn : n ≤ 1048576) : TbF W w.heap.size W.heap.size a (tbN m n F) := fun hne => by
  have hm : 0 < m := by rw [← tbN_len m n F]; exact List.length_pos_iff.2 hne
  obtain ⟨g, cur, e, h1, h2, h3⟩ := h.gr.at_ hm
  refine ⟨g, 0, e, h1, (Array.getElem?_eq_some_iff.1 h2).1, fun i hi => ?_⟩
  rw [tbN_len] at hi
  obtain ⟨k1, k2⟩ := h.rows i hi
  rw [tbN_row hi, Nat.zero_add]
  refine ⟨some ⟨blk i, 0, none⟩, n, ?_, by simp, by unfold maxLen; omega, fun _ => ⟨blk i, 0, rfl, k2, k1.lt, fun j hj => ?_⟩⟩
  · rw [h3 i _ hi (by simp [hi]; rfl)]; simp
  · have hjn : j < n := by simpa using hj
    rw [Nat.zero_add, k1.cell hjn]
    simp [bt, hjn]
/-- Row i lost its first value. -/
theorem CE.short {i g0 : Nat} (h : CE w W R0 (some ⟨g0, 0, none⟩) cap m n blk F) (hi : i < m) (hn0 : 0 < n) (hn : n ≤ 1048576) :
    TbF (W.setCell ⟨g0, i, none⟩ (.slice (some ⟨blk i, 1, none⟩) (n - 1) (n - 1))) w.heap.size W.heap.size (some ⟨g0, 0, none⟩) ((tbN m n F).set i ((List.range (n - 1)).map fun j => F i (j + 1))) ∧ w.grownBy (W.setCell ⟨g0, i, none⟩ (.slice (some ⟨blk i, 1, none⟩) (n - 1) (n - 1))) (some R0) := by
  obtain ⟨g, cur, e, h1, h2, h3⟩ := h.gr.at_ (by omega)
  injection e with e
  injection e with e
  subst e
  have hg := Lib.grownBy_setCell W g0 i (.slice (some ⟨blk i, 1, none⟩) (n - 1) (n - 1))
  have hgl := (Array.getElem?_eq_some_iff.1 h2).1
  have hc0 : W.cell? ⟨g0, i, none⟩ = some (.slice (some ⟨blk i, 0, none⟩) n n) := h3 i _ hi (by simp [hi])
  have hself : (W.setCell ⟨g0, i, none⟩ (.slice (some ⟨blk i, 1, none⟩) (n - 1) (n - 1))).cell? ⟨g0, i, none⟩ = some (.slice (some ⟨blk i, 1, none⟩) (n - 1) (n - 1)) := World.cell?_setCell_same _ _ _ hc0
  refine ⟨fun _ => ⟨g0, 0, rfl, h1, hgl, fun x hx => ?_⟩, ?_⟩
  · rw [List.length_set, tbN_len] at hx
    rw [Nat.zero_add]
    obtain ⟨k1, k2⟩ := h.rows x hx
    have hne : blk x ≠ g0 := fun e => by
      obtain ⟨c, hc, _⟩ := k1
      rw [e, h2] at hc
      injection hc with hc
      injection hc with _ hc _
      exact absurd hc (by decide)
    have kr := k1.of_block (hg.block _ k1.lt (fun e => hne (by injection e)))
    by_cases e : x = i
    · subst e
      have er : rwB ((tbN m n F).set x ((List.range (n - 1)).map fun j => F x (j + 1))) x = (List.range (n - 1)).map fun j => F x (j + 1) := by simp [rwB, tbN_len, hx]
      rw [er]
      refine ⟨_, n - 1, by rw [hself]; simp, by simp, by unfold maxLen; omega, fun _ => ⟨blk x, 1, rfl, k2, k1.lt, fun j hj => ?_⟩⟩
      have hjn : j < n - 1 := by simpa using hj
      rw [kr.cell (i := 1 + j) (by omega)]
      simp [bt, hjn, Nat.add_comm]
    · have er : rwB ((tbN m n F).set i ((List.range (n - 1)).map fun j => F i (j + 1))) x = (List.range n).map (F x) := by
        unfold rwB
        rw [List.getD_eq_getElem?_getD, List.getElem?_set_ne (fun h => e h.symm), ← List.getD_eq_getElem?_getD]
        exact tbN_row hx
      rw [er]
      refine ⟨some ⟨blk x, 0, none⟩, n, ?_, by simp, by unfold maxLen; omega, fun _ => ⟨blk x, 0, rfl, k2, k1.lt, fun j hj => ?_⟩⟩
      · rw [World.cell?_setCell_other _ _ _ _ (by intro e2; injection e2 with _ e2; exact e e2.symm), h3 x _ hx (by simp [hx]; rfl)]; simp
      · have hjn : j < n := by simpa using hj
        rw [Nat.zero_add, kr.cell hjn]
        simp [bt, hjn]
  · exact ⟨hg.os.trans h.g.os, hg.tape.trans h.g.tape, hg.output.trans h.g.output, Nat.le_trans h.g.size hg.size, fun k hk hne => (hg.block k (Nat.lt_of_lt_of_le hk h.g.size) (fun e => by injection e; omega)).trans (h.g.block k hk hne)⟩
end
end Go.Proofs.Ytnmhiagnmfpipaa
