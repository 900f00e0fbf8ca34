/-
  The rows of paths of the model's search, and what the search finds step by step. No condition.
-/
import Derived.Test.YtnjjblcigcblhaaDoorStr6
namespace Go.Proofs.YtnjjblcigcblhaaDoor
open Go.RowKit

/-- A path as it lies in a row: its slice (address, length, room), its cost, whether it is used. -/
abbrev PD := Option Addr × Nat × Nat × Nat × Bool
def pCell (d : PD) : Nat → Value
  | 0 => .slice d.1 d.2.1 d.2.2.1
  | 1 => .int .i64 d.2.2.2.1
  | _ => .bool d.2.2.2.2
def rowQ (d : Nat → PD) : Array Value := #[pCell (d 0) 0, pCell (d 0) 1, pCell (d 0) 2, pCell (d 1) 0, pCell (d 1) 1, pCell (d 1) 2, pCell (d 2) 0, pCell (d 2) 1, pCell (d 2) 2, pCell (d 3) 0, pCell (d 3) 1, pCell (d 3) 2]
theorem rowQ_cell {w : World} {b t : Nat} {d : Nat → PD} (h : w.heap[b]? = some (.cells (rowQ d) t (0, 0))) {s : Nat} (hs : s < 4) :
    w.cell? ⟨b, s * 3, none⟩ = some (.slice (d s).1 (d s).2.1 (d s).2.2.1) ∧ w.cell? ⟨b, s * 3 + 1, none⟩ = some (.int .i64 (d s).2.2.2.1) ∧ w.cell? ⟨b, s * 3 + 2, none⟩ = some (.bool (d s).2.2.2.2) := by
  match s, hs with
  | 0, _ | 1, _ | 2, _ | 3, _ => exact ⟨cell_of_row _ _ _ _ _ _ h, cell_of_row _ _ _ _ _ _ h, cell_of_row _ _ _ _ _ _ h⟩
theorem rowQ_set {d : Nat → PD} {x : PD} {s : Nat} (hs : s < 4) :
    (((rowQ d).setIfInBounds (s * 3) (.slice x.1 x.2.1 x.2.2.1)).setIfInBounds (s * 3 + 1) (.int .i64 x.2.2.2.1)).setIfInBounds (s * 3 + 2) (.bool x.2.2.2.2) = rowQ (fun i => if i = s then x else d i) := by
  match s, hs with
  | 0, _ | 1, _ | 2, _ | 3, _ => rfl
theorem rowQ_store {w : World} {b t : Nat} {d : Nat → PD} (x : PD) (h : w.heap[b]? = some (.cells (rowQ d) t (0, 0))) {s : Nat} (hs : s < 4) :
    let W := ((w.setCell ⟨b, s * 3, none⟩ (.slice x.1 x.2.1 x.2.2.1)).setCell ⟨b, s * 3 + 1, none⟩ (.int .i64 x.2.2.2.1)).setCell ⟨b, s * 3 + 2, none⟩ (.bool x.2.2.2.2)
    W.heap[b]? = some (.cells (rowQ fun i => if i = s then x else d i) t (0, 0)) ∧ (∀ j, j ≠ b → W.heap[j]? = w.heap[j]?) ∧ W.heap.size = w.heap.size := by
  intro W
  have e1 := setCell_eq_setRow w b (s * 3) _ _ _ (.slice x.1 x.2.1 x.2.2.1) h
  have h1 := setRow_heap w b _ ((rowQ d).setIfInBounds (s * 3) (.slice x.1 x.2.1 x.2.2.1)) _ _ h
  rw [← e1] at h1
  have e2 := setCell_eq_setRow _ b (s * 3 + 1) _ _ _ (.int .i64 x.2.2.2.1) h1
  have h2 := setRow_heap _ b _ (((rowQ d).setIfInBounds (s * 3) (.slice x.1 x.2.1 x.2.2.1)).setIfInBounds (s * 3 + 1) (.int .i64 x.2.2.2.1)) _ _ h1
  rw [← e2] at h2
  have e3 := setCell_eq_setRow _ b (s * 3 + 2) _ _ _ (.bool x.2.2.2.2) h2
  have h3 := setRow_heap _ b _ ((((rowQ d).setIfInBounds (s * 3) (.slice x.1 x.2.1 x.2.2.1)).setIfInBounds (s * 3 + 1) (.int .i64 x.2.2.2.1)).setIfInBounds (s * 3 + 2) (.bool x.2.2.2.2)) _ _ h2
  rw [← e3, rowQ_set hs] at h3
  refine ⟨h3, fun j hj => ?_, ?_⟩
  · show (World.setCell _ _ _).heap[j]? = _
    rw [Below.heap_setCell _ ⟨b, s * 3 + 2, none⟩ _ j hj, Below.heap_setCell _ ⟨b, s * 3 + 1, none⟩ _ j hj, Below.heap_setCell _ ⟨b, s * 3, none⟩ _ j hj]
  · show (World.setCell _ _ _).heap.size = _
    rw [e3, setRow_size, e2, setRow_size, e1, setRow_size]
theorem OwnInts.kept {k : IntKind} {t : TypeId} {w w' : World} {a : Option Addr} {xs : List Int} (h : OwnInts k t w 0 a xs) (hk : ∀ (b : Nat) (c : Array Value), w.heap[b]? = some (.cells c t (0, 0)) → w'.heap[b]? = w.heap[b]?) : OwnInts k t w' 0 a xs := fun hne => by
  obtain ⟨b, cap, h1, h2, h3, f, ⟨c, h4, h5, h6⟩, h7⟩ := h hne
  exact ⟨b, cap, h1, h2, h3, f, ⟨c, (hk b c h4).trans h4, h5, h6⟩, h7⟩
theorem OwnInts.ints0 {k : IntKind} {t : TypeId} {w : World} {a : Option Addr} {xs : List Int} (h : OwnInts k t w 0 a xs) : Ints k w w.heap.size a xs := fun hne => by
  obtain ⟨b, cap, h1, h2, h3, f, h4, h5⟩ := h hne
  exact ⟨b, 0, h1, h4.lt, fun i hi => by rw [Nat.zero_add, h4.cell (by omega), h5 i hi]⟩
theorem Grow.owned {w : World} {base n cap : Nat} {a : Option Addr} {xs : List Int} (h : Grow .i64 3 w base a n cap xs) : OwnInts .i64 3 w 0 a xs := fun hne => by
  have hl := h.len
  have hp : 0 < n := by rw [← hl]; exact List.length_pos_iff.2 hne
  obtain ⟨b, f, rfl, h1, _, h3, h4, h5⟩ := h.row hp
  exact ⟨b, cap, rfl, by omega, by omega, f, h4, fun i hi => h5 i (by omega)⟩
/-- The path lies in memory. -/
def PathAt (w : World) (d : PD) : Option Surv → Prop
  | none => d.2.2.2.2 = false
  | some p => d.2.2.2.2 = true ∧ d.2.2.2.1 = p.1 ∧ d.2.1 = p.2.length ∧ d.2.1 ≤ d.2.2.1 ∧ OwnInts .i64 3 w 0 d.1 (ints p.2)
theorem PathAt.kept {w w' : World} {d : PD} {o : Option Surv} (h : PathAt w d o) (hk : ∀ (b : Nat) (c : Array Value), w.heap[b]? = some (.cells c 3 (0, 0)) → w'.heap[b]? = w.heap[b]?) : PathAt w' d o := by
  cases o with
  | none => exact h
  | some p => exact ⟨h.1, h.2.1, h.2.2.1, h.2.2.2.1, h.2.2.2.2.kept hk⟩
theorem PathAt.next {w w' : World} {d : PD} {o : Option Surv} (h : PathAt w d o) (hb : Below w.heap.size w w') : PathAt w' d o := h.kept fun b _ hc => hb.block b (lt_of_heap hc)
/-- The paths of the four states lie in a row; nothing that was there has changed; the call's result lies in block R. -/
def NR (w W : World) (R g : Nat) (d : Nat → PD) (f : Nat → Option Surv) : Prop :=
  (W.heap[g]? = some (.cells (rowQ d) 65 (0, 0)) ∧ ∀ t, t < 4 → PathAt W (d t) (f t)) ∧ (∃ c, W.heap[R]? = some (.cells c 65 (0, 0)) ∧ c.size = 3) ∧ (w.heap.size ≤ R ∧ R < g) ∧ Below w.heap.size w W
theorem NR.next {w W W' : World} {R g : Nat} {d : Nat → PD} {f : Nat → Option Surv} (h : NR w W R g d f) (hb : Below W.heap.size W W') : NR w W' R g d f := by
  obtain ⟨⟨h1, h2⟩, ⟨c, h3, h4⟩, h5, h6⟩ := h
  exact ⟨⟨(hb.block _ (lt_of_heap h1)).trans h1, fun t ht => (h2 t ht).next hb⟩, ⟨c, (hb.block _ (lt_of_heap h3)).trans h3, h4⟩, h5, Below.next h6 (Nat.le_refl _) hb⟩
/-- A change in another block of paths leaves the row as it is. -/
theorem NR.other {w W W' : World} {R g x : Nat} {d : Nat → PD} {f : Nat → Option Surv} {c : Array Value} (h : NR w W R g d f) (hx : W.heap[x]? = some (.cells c 65 (0, 0))) (hg : g ≠ x) (hR : R ≠ x) (hk : ∀ j, j ≠ x → W'.heap[j]? = W.heap[j]?)
    (hb : Below w.heap.size w W') : NR w W' R g d f := by
  obtain ⟨⟨h1, h2⟩, ⟨c', h3, h4⟩, h5, h6⟩ := h
  refine ⟨⟨(hk _ hg).trans h1, fun t ht => (h2 t ht).kept fun b c'' hc => hk _ fun e => ?_⟩, ⟨c', (hk _ hR).trans h3, h4⟩, h5, hb⟩
  subst e
  rw [hx] at hc
  injection hc with hc
  injection hc with _ hc
  cases hc
/-- Two rows: the paths of now, and those that are found next. -/
def MR (w W : World) (R g x : Nat) (d e : Nat → PD) (f h : Nat → Option Surv) : Prop := NR w W R g d f ∧ NR w W R x e h ∧ g < x
theorem MR.next {w W W' : World} {R g x : Nat} {d e : Nat → PD} {f h : Nat → Option Surv} (H : MR w W R g x d e f h) (hb : Below W.heap.size W W') : MR w W' R g x d e f h := ⟨H.1.next hb, H.2.1.next hb, H.2.2⟩
theorem MR.store {w W : World} {R g x s : Nat} {d e : Nat → PD} {f h : Nat → Option Surv} (v : PD) {o : Option Surv} (H : MR w W R g x d e f h) (hs : s < 4) (hv : PathAt W v o) :
    MR w (((W.setCell ⟨x, s * 3, none⟩ (.slice v.1 v.2.1 v.2.2.1)).setCell ⟨x, s * 3 + 1, none⟩ (.int .i64 v.2.2.2.1)).setCell ⟨x, s * 3 + 2, none⟩ (.bool v.2.2.2.2)) R g x d (fun i => if i = s then v else e i) f (fun i => if i = s then o else h i) := by
  obtain ⟨h1, h2, h3⟩ := H
  obtain ⟨s1, s2, s3⟩ := rowQ_store v h2.1.1 hs
  have hwx : w.heap.size ≤ x := by have := h2.2.2.1; omega
  have hb : Below w.heap.size w (((W.setCell ⟨x, s * 3, none⟩ (.slice v.1 v.2.1 v.2.2.1)).setCell ⟨x, s * 3 + 1, none⟩ (.int .i64 v.2.2.2.1)).setCell ⟨x, s * 3 + 2, none⟩ (.bool v.2.2.2.2)) := ((h2.2.2.2.setCell hwx _).setCell hwx _).setCell hwx _
  have hkk : ∀ (b : Nat) (c : Array Value), W.heap[b]? = some (.cells c 3 (0, 0)) → (((W.setCell ⟨x, s * 3, none⟩ (.slice v.1 v.2.1 v.2.2.1)).setCell ⟨x, s * 3 + 1, none⟩ (.int .i64 v.2.2.2.1)).setCell ⟨x, s * 3 + 2, none⟩ (.bool v.2.2.2.2)).heap[b]? = W.heap[b]? := fun b c hc => s2 _ fun e => by
    subst e
    rw [h2.1.1] at hc
    injection hc with hc
    injection hc with _ hc
    cases hc
  refine ⟨h1.other h2.1.1 (by omega) (by have := h2.2.2.1; omega) s2 hb, ⟨⟨s1, fun t ht => ?_⟩, ?_, h2.2.2.1, hb⟩, h3⟩
  · by_cases e : t = s
    · subst e
      simp only [if_true]
      exact hv.kept hkk
    · simp only [e, if_false]
      exact (h2.1.2 t ht).kept hkk
  · obtain ⟨c, h4, h5⟩ := h2.2.1
    exact ⟨c, (s2 R (by have := h2.2.2.1; omega)).trans h4, h5⟩
/-- Beside them the path that is tried, in block p. -/
def CR (w W : World) (R g x p : Nat) (d e : Nat → PD) (f h : Nat → Option Surv) (v : PD) (o : Option Surv) : Prop :=
  MR w W R g x d e f h ∧ W.heap[p]? = some (.cells #[pCell v 0, pCell v 1, pCell v 2] 65 (0, 0)) ∧ PathAt W v o ∧ x < p
theorem CR.next {w W W' : World} {R g x p : Nat} {d e : Nat → PD} {f h : Nat → Option Surv} {v : PD} {o : Option Surv} (H : CR w W R g x p d e f h v o) (hb : Below W.heap.size W W') : CR w W' R g x p d e f h v o :=
  ⟨H.1.next hb, (hb.block _ (lt_of_heap H.2.1)).trans H.2.1, H.2.2.1.next hb, H.2.2.2⟩
/-- The path's bits are set. -/
theorem CR.made {w W : World} {R g x p c0 n cap : Nat} {d e : Nat → PD} {f h : Nat → Option Surv} {a : Option Addr} {l : List Nat} {v0 : Value} (H : MR w W R g x d e f h) (hp : W.heap[p]? = some (.cells #[v0, .int .i64 c0, .bool true] 65 (0, 0))) (hxp : x < p) (hn : n = l.length) (hroom : n ≤ cap) (ho : OwnInts .i64 3 W 0 a (ints l)) :
    CR w (W.setCell ⟨p, 0, none⟩ (.slice a n cap)) R g x p d e f h (a, n, cap, c0, true) (some (c0, l)) := by
  have hwp : w.heap.size ≤ p := by have := H.2.1.2.2.1; omega
  have hb : Below w.heap.size w (W.setCell ⟨p, 0, none⟩ (.slice a n cap)) := H.1.2.2.2.setCell hwp _
  have hk : ∀ j, j ≠ p → (W.setCell ⟨p, 0, none⟩ (.slice a n cap)).heap[j]? = W.heap[j]? := fun j hj => Below.heap_setCell W ⟨p, 0, none⟩ _ _ hj
  have hr := H.2.1.2.2.1
  refine ⟨⟨H.1.other hp (by have := H.2.2; omega) (by omega) hk hb, H.2.1.other hp (by omega) (by omega) hk hb, H.2.2⟩, ?_, ⟨rfl, rfl, hn, hroom, ho.kept fun b c hc => hk _ fun e => ?_⟩, hxp⟩
  · rw [setCell_eq_setRow W p 0 _ _ _ _ hp]
    exact setRow_heap _ _ _ _ _ _ hp
  · subst e
    rw [hp] at hc
    injection hc with hc
    injection hc with _ hc
    cases hc
def noPath : PD := (none, 0, 0, 0, false)
def noPaths : Nat → PD := fun _ => noPath
theorem makeQ (w : World) : (Instr.makeSlice 78 (.int .i64 4) (.int .i64 4)).run Tryd.prog w = .ok (.slice (some ⟨w.heap.size, 0, none⟩) 4 4) (w.alloc (.cells (rowQ noPaths) 65)) := by
  have hi : (Tryd.prog.info? 65).map (fun i => (i.zero, i.size, i.bytes)) = some (some (.agg #[.slice none 0 0, .int .i64 0, .bool false]), 3, 40) := by kernel_rfl
  obtain ⟨i, hi0, hi1⟩ := Option.map_eq_some_iff.1 hi
  injection hi1 with e1 e2
  injection e2 with e2 e3
  have h := run_make (P := Tryd.prog) w 78 65 i _ Tryd.underlying78 hi0 e1 .i64 .i64 4 4 (by omega) (by omega) (by rw [e3]; omega) (by omega)
  rw [e2, show madeCells (Value.agg #[.slice none 0 0, .int .i64 0, .bool false]).cells (Int.toNat 4 * 3) = rowQ noPaths by kernel_rfl] at h
  exact h
/-- What the inner loop has found after j bits of state s. -/
def stB (n k : Nat) (r : Nat × Nat) (now : Nat → Option Surv) (s : Nat) : Nat → Nat → Option Surv
  | 0 => newF n k r now s
  | 1 => stepC n k r now s 0 (newF n k r now s)
  | _ => newF n k r now (s + 1)
theorem stB_next {n k : Nat} {r : Nat × Nat} {now : Nat → Option Surv} {s j : Nat} (hj : j < 2) : stB n k r now s (j + 1) = stepC n k r now s j (stB n k r now s j) := by
  obtain rfl | rfl : j = 0 ∨ j = 1 := by omega
  · rfl
  · rfl
theorem stepC_none {n k : Nat} {r : Nat × Nat} {now h : Nat → Option Surv} {s j : Nat} (hc : cand n k r now s j = none) : stepC n k r now s j h = h := funext fun t => by
  unfold stepC
  rw [hc, comb_none_r]
  split <;> rfl
theorem cand_unused {n k : Nat} {r : Nat × Nat} {now : Nat → Option Surv} {s j : Nat} (h : now s = none) : cand n k r now s j = none := by
  unfold cand
  rw [h]
  split <;> rfl
theorem stB_unused {n k : Nat} {r : Nat × Nat} {now : Nat → Option Surv} {s j : Nat} (h : now s = none) (hj : j ≤ 2) : stB n k r now s j = newF n k r now (s + 1) := by
  have e1 : stB n k r now s 1 = newF n k r now s := stepC_none (cand_unused h)
  have e2 : newF n k r now (s + 1) = stB n k r now s 1 := stepC_none (cand_unused h)
  obtain rfl | rfl | rfl : j = 0 ∨ j = 1 ∨ j = 2 := by omega
  · rw [e2, e1]; rfl
  · exact e2.symm
  · rfl
theorem stB_shut {n k : Nat} {r : Nat × Nat} {now : Nat → Option Surv} {s : Nat} (h : n ≤ k) : stB n k r now s 1 = newF n k r now (s + 1) := by
  have e2 : newF n k r now (s + 1) = stB n k r now s 1 := stepC_none (by simp [cand, h])
  exact e2.symm
/-- Paths of length k of bits. -/
def GoodF (k : Nat) (f : Nat → Option Surv) : Prop := ∀ t q, t < 4 → f t = some q → q.2.length = k ∧ Bits2 q.2
theorem comb_good {k : Nat} {a b : Option Surv} (ha : ∀ q, a = some q → q.2.length = k ∧ Bits2 q.2) (hb : ∀ q, b = some q → q.2.length = k ∧ Bits2 q.2) : ∀ q, sComb a b = some q → q.2.length = k ∧ Bits2 q.2 := by
  intro q hq
  cases a with
  | none => exact hb q hq
  | some u =>
    cases b with
    | none => exact ha q hq
    | some v =>
      simp only [sComb] at hq
      split at hq
      · exact hb q hq
      · exact ha q hq
theorem stepC_good {n k : Nat} {r : Nat × Nat} {now h : Nat → Option Surv} {s j : Nat} (hn : GoodF k now) (hs : s < 4) (hj : j < 2) (hh : GoodF (k + 1) h) : GoodF (k + 1) (stepC n k r now s j h) := fun t q ht hq => by
  unfold stepC at hq
  split at hq
  · refine comb_good (k := k + 1) (fun q e => hh t q ht e) (fun q e => ?_) q hq
    unfold cand at e
    split at e
    · cases e
    · cases e2 : now s with
      | none => rw [e2] at e; cases e
      | some p =>
        rw [e2] at e
        simp only [sSnoc, Option.some.injEq] at e
        subst e
        have := hn s p hs e2
        exact ⟨by simp [this.1], this.2.app (Bits2.mk hj Bits2.nil)⟩
  · exact hh t q ht hq
theorem newF_good {n k : Nat} {r : Nat × Nat} {now : Nat → Option Surv} (hn : GoodF k now) : ∀ s, s ≤ 4 → GoodF (k + 1) (newF n k r now s)
  | 0, _ => fun t q _ h => by simp [newF] at h
  | s + 1, hs => stepC_good hn (by omega) (by omega) (stepC_good hn (by omega) (by omega) (newF_good hn s (by omega)))
theorem stB_good {n k : Nat} {r : Nat × Nat} {now : Nat → Option Surv} {s j : Nat} (hn : GoodF k now) (hs : s < 4) (hj : j ≤ 2) : GoodF (k + 1) (stB n k r now s j) := by
  obtain rfl | rfl | rfl : j = 0 ∨ j = 1 ∨ j = 2 := by omega
  · exact newF_good hn s (by omega)
  · exact stepC_good hn hs (by omega) (newF_good hn s (by omega))
  · exact newF_good hn (s + 1) (by omega)
theorem fw_good {n k : Nat} {rs : List (Nat × Nat)} (hk : k ≤ rs.length) : GoodF k (fw n rs k) := fun t q ht hq => by
  have h := fw_best n rs k hk (t % 2) (t / 2) (by omega) (by omega)
  rw [show t % 2 + 2 * (t / 2) = t by omega, hq] at h
  exact ⟨h.1.1, h.1.2.1⟩
theorem fw_le {n k t : Nat} {rs : List (Nat × Nat)} {q : Surv} (hk : k ≤ rs.length) (hr : Pairs2 rs) (hl : rs.length ≤ 42) (ht : t < 4) (hq : fw n rs k t = some q) : q.1 ≤ 84 := by
  have h := fw_best n rs k hk (t % 2) (t / 2) (by omega) (by omega)
  rw [show t % 2 + 2 * (t / 2) = t by omega, hq] at h
  rw [h.2.1]
  have := hdP_le (sEnc 0 0 q.2) (rs.take k) (sEnc_pairs _ _ _ (by omega) (by omega) h.1.2.1) (fun p hp => hr p (List.mem_of_mem_take hp))
  have h2 : (rs.take k).length ≤ 42 := by rw [List.length_take]; omega
  unfold sCost
  omega
/-- The rows when the search begins. -/
theorem NR.start {w W : World} (n : Nat) (rs : List (Nat × Nat)) (hW : W = (w.alloc (.cells #[.slice none 0 0, .int .i64 0, .bool false] 65)).alloc (.cells #[.slice none 0 0, .int .i64 0, .bool true, .slice none 0 0, .int .i64 0, .bool false, .slice none 0 0, .int .i64 0, .bool false, .slice none 0 0, .int .i64 0, .bool false] 65)) :
    NR w W w.heap.size (w.heap.size + 1) (fun t => if t = 0 then (none, 0, 0, 0, true) else noPath) (fw n rs 0) := by
  subst hW
  refine ⟨⟨heap_last2 _ _ _, fun t ht => ?_⟩, ⟨_, heap_prev2 _ _ _, rfl⟩, ⟨by omega, by omega⟩, (below_new w _).alloc (by simp) _⟩
  by_cases e : t = 0
  · subst e
    exact ⟨rfl, rfl, rfl, Nat.le_refl _, fun h => absurd rfl h⟩
  · simp only [e, if_false, fw]
    rfl
end Go.Proofs.YtnjjblcigcblhaaDoor
