/-
  Tables of numbers that grow: a list of rows, each in a block of its own. No condition; plain lemmas.
-/
import Derived.Test.YtnmhiagnmfpipaaPwDraw1
namespace Go.Proofs.Ytnmhiagnmfpipaa
open Go.RowKit

theorem rwI_app (R : List (List Int)) (xs : List Int) (i : Nat) : rwI (R ++ [xs]) i = if i = R.length then xs else rwI R i := by
  unfold rwI
  by_cases e : i = R.length
  · subst e; simp
  · rw [if_neg e]
    rcases Nat.lt_or_ge i R.length with h | h
    · rw [List.getD_eq_getElem?_getD, List.getD_eq_getElem?_getD, List.getElem?_append_left h]
    · rw [List.getD_eq_getElem?_getD, List.getD_eq_getElem?_getD, List.getElem?_eq_none (by simp; omega), List.getElem?_eq_none h]
theorem GrowV.keepA {w w' : World} {base n cap : Nat} {a : Option Addr} {vs : List Value} (h : GrowV w base a n cap vs) (hk : ∀ g, base ≤ g → g < w.heap.size → w'.heap[g]? = w.heap[g]?) : GrowV w' base a n cap vs := by
  refine ⟨h.1, ?_⟩
  rcases h.2 with h0 | ⟨g, c2, cur, e, h1, hh, rest⟩
  · exact .inl h0
  · exact .inr ⟨g, c2, cur, e, h1, (hk g h1 (Array.getElem?_eq_some_iff.1 hh).1).trans hh, rest⟩
set_option maxRecDepth 10000 in
theorem Grow.put {W : World} {base b n cap : Nat} {xs : List Int} (h : Grow .i64 3 W base (some ⟨b, 0, none⟩) n cap xs) {k : Nat} (v : Int) : Grow .i64 3 (W.setCell ⟨b, k, none⟩ (.int .i64 v)) base (some ⟨b, 0, none⟩) n cap (xs.set k v) := by
  have hl := h.len
  have hroom := h.room
  rcases h.2 with ⟨e, h0⟩ | ⟨g, c, cur, e, hg, hh, hnc, hcm, hcs, htk⟩
  · injection e with e1 _ _; cases e1
  · injection e with e1 e2 e3
    injection e1 with e1
    injection e1 with e1 _
    subst e1 e3
    rw [Nat.mul_one] at hcs htk
    have hrow : W.rowIs b 3 cap (fun i => cur.getD i undef) := ⟨cur, hh, hcs, fun i hi => by simp [show i < cur.size by omega]⟩
    obtain ⟨cur', hh', hcs', hf'⟩ := hrow.set k (.int .i64 v)
    refine ⟨by simp [hl], .inr ⟨b, cap, cur', rfl, hg, hh', hnc, hcm, by rw [hcs', Nat.mul_one], ?_⟩⟩
    refine List.ext_getElem? fun i => ?_
    rw [List.getElem?_take, Nat.mul_one]
    by_cases hi : i < n
    · rw [if_pos hi]
      have h1 := hf' i (by omega)
      have h2 : (cur.toList.take n)[i]? = (xs.map (Value.int .i64))[i]? := by rw [htk]
      rw [List.getElem?_take, if_pos hi] at h2
      have hic : i < cur.size := by omega
      have hix : i < xs.length := by omega
      simp [hic, hix] at h2
      have h3 : cur'.toList[i]? = cur'[i]? := by simp
      rw [h3, h1]
      by_cases e : i = k
      · subst e; simp [hix]
      · have e2 : ¬ k = i := fun h => e h.symm
        rw [List.getElem?_map, List.getElem?_set_ne e2]
        simp [e, hic, h2, hix]
    · rw [if_neg hi, List.getElem?_eq_none (by simp; omega)]
/-- A table in blocks from A on, below B. -/
def TiF (W : World) (A B : Nat) (a : Option Addr) (R : List (List Int)) : Prop :=
  R ≠ [] → ∃ b off : Nat, a = some (⟨b, off, none⟩ : Addr) ∧ A ≤ b ∧ b < B ∧ ∀ i, i < R.length → ∃ ad cp, W.cell? ⟨b, off + i, none⟩ = some (.slice ad (rwI R i).length cp) ∧ (rwI R i).length ≤ cp ∧ cp ≤ maxLen ∧
    (rwI R i ≠ [] → ∃ b' off' : Nat, ad = some (⟨b', off', none⟩ : Addr) ∧ A ≤ b' ∧ b' < B ∧ ∀ j, j < (rwI R i).length → W.cell? ⟨b', off' + j, none⟩ = some (.int .i64 (el (rwI R i) j)))
section
variable {W W' : World} {A B B' : Nat} {a : Option Addr} {R : List (List Int)}
theorem TiF.keep (h : TiF W A B a R) (hk : ∀ g, A ≤ g → g < B → W'.heap[g]? = W.heap[g]?) : TiF W' A B a R := fun hn => by
  obtain ⟨b, off, e, h1, h2, h3⟩ := h hn
  refine ⟨b, off, e, h1, h2, fun i hi => ?_⟩
  obtain ⟨ad, cp, k1, k2, k3, k4⟩ := h3 i hi
  refine ⟨ad, cp, (World.cell?_of_block (hk b h1 h2)).trans k1, k2, k3, fun hne => ?_⟩
  obtain ⟨b', off', e', m1, m2, m3⟩ := k4 hne
  exact ⟨b', off', e', m1, m2, fun j hj => (World.cell?_of_block (hk b' m1 m2)).trans (m3 j hj)⟩
theorem TiF.below (h : TiF W A B a R) (hb : Below B W W') : TiF W' A B a R := h.keep fun g _ hg => hb.block g hg
theorem TiF.pick {R0 : Nat} (h : TiF W A B a R) (hg : W.grownBy W' (some R0)) (h0 : R0 < A) (hB : B ≤ W.heap.size) : TiF W' A B a R := h.keep fun g h1 h2 => hg.block g (Nat.lt_of_lt_of_le h2 hB) fun e => by injection e; omega
theorem TiF.rows (h : TiF W A B a R) : RowsL W B a R := fun hn => by
  obtain ⟨b, off, e, h1, h2, h3⟩ := h hn
  refine ⟨b, off, e, h2, fun i hi => ?_⟩
  obtain ⟨ad, cp, k1, k2, k3, k4⟩ := h3 i hi
  refine ⟨ad, cp, k1, k2, k3, fun hne => ?_⟩
  obtain ⟨b', off', e', m1, m2, m3⟩ := k4 hne
  exact ⟨b', off', e', m2, m3⟩
end
/-- A table that grows, in blocks from A on. -/
structure TW (W : World) (A : Nat) (a : Option Addr) (cap : Nat) (R : List (List Int)) (blk : Nat → Nat) (vs : List Value) : Prop where
  gr : GrowV W A a R.length cap vs
  rows : ∀ i, i < R.length → ∃ c, vs[i]? = some (.slice (some ⟨blk i, 0, none⟩) (rwI R i).length c) ∧ Grow .i64 3 W A (some ⟨blk i, 0, none⟩) (rwI R i).length c (rwI R i)
  lt : ∀ i, i < R.length → blk i < W.heap.size
  inc : ∀ i j, i < j → j < R.length → blk i < blk j
section
variable {W W' : World} {A cap : Nat} {a : Option Addr} {R : List (List Int)} {blk : Nat → Nat} {vs : List Value}
theorem TW.lit0 (w : World) (A : Nat) (hA : A ≤ w.heap.size) : TW (w.alloc (.cells #[] 27)) A (some ⟨w.heap.size, 0, none⟩) 0 [] (fun _ => 0) [] :=
  ⟨GrowV.lit0 w A hA, fun _ hi => absurd hi (Nat.not_lt_zero _), fun _ hi => absurd hi (Nat.not_lt_zero _), fun _ _ _ hj => absurd hj (Nat.not_lt_zero _)⟩
theorem TW.keep (h : TW W A a cap R blk vs) (hs : W.heap.size ≤ W'.heap.size) (hk : ∀ g, A ≤ g → g < W.heap.size → W'.heap[g]? = W.heap[g]?) : TW W' A a cap R blk vs :=
  ⟨h.gr.keepA hk, fun i hi => by
    obtain ⟨c, h1, h2⟩ := h.rows i hi
    exact ⟨c, h1, h2.keep hk⟩, fun i hi => Nat.lt_of_lt_of_le (h.lt i hi) hs, h.inc⟩
theorem TW.next (h : TW W A a cap R blk vs) (hb : Below W.heap.size W W') : TW W' A a cap R blk vs := h.keep hb.size fun g _ hg => hb.block g hg
theorem TW.read {R0 : Nat} (h : TW W A a cap R blk vs) (hg : W.grownBy W' (some R0)) (h0 : R0 < A) : TW W' A a cap R blk vs := h.keep hg.size fun g h1 h2 => hg.block g h2 fun e => by injection e; omega
set_option maxRecDepth 10000 in
/-- One row more. -/
theorem TW.app {a' : Option Addr} {cap' b9 n9 c9 : Nat} {xs : List Int} (h : TW W A a cap R blk vs) (hx : Grow .i64 3 W A (some ⟨b9, 0, none⟩) n9 c9 xs) (hb9 : ∀ i, i < R.length → blk i < b9) (h9 : b9 < W.heap.size)
    (h1 : GrowV W' A a' (R.length + 1) cap' (vs ++ [.slice (some ⟨b9, 0, none⟩) n9 c9])) (h2 : W.grownBy W' (Value.ownBlock (.slice a R.length cap))) :
    TW W' A a' cap' (R ++ [xs]) (fun i => if i = R.length then b9 else blk i) (vs ++ [.slice (some ⟨b9, 0, none⟩) n9 c9]) := by
  have hl := h.gr.len
  have hlx := hx.len
  have hkeep : ∀ (j : Nat) (c : Array Value) (fr : Nat × Nat), W.heap[j]? = some (Obj.cells c 3 fr) → W'.heap[j]? = W.heap[j]? := fun j c fr hj => h.gr.leaves h2 hj (by decide)
  refine ⟨by rw [List.length_append]; exact h1, fun i hi => ?_, fun i hi => ?_, fun i j hij hj => ?_⟩
  · rw [rwI_app]
    by_cases e : i = R.length
    · subst e
      refine ⟨c9, ?_, ?_⟩
      · simp [hl, hlx]
      · simp only [if_true, hlx]; exact hx.leaves hkeep
    · rw [List.length_append, List.length_singleton] at hi
      obtain ⟨c, h3, h4⟩ := h.rows i (by omega)
      refine ⟨c, ?_, ?_⟩
      · simp only [e, if_false]
        rw [List.getElem?_append_left (by omega)]
        exact h3
      · simp only [e, if_false]; exact h4.leaves hkeep
  · rw [List.length_append, List.length_singleton] at hi
    have hs := h2.size
    by_cases e : i = R.length
    · simp only [e, if_true]; omega
    · have := h.lt i (by omega)
      simp only [e, if_false]; omega
  · rw [List.length_append, List.length_singleton] at hj
    by_cases e : j = R.length
    · simp only [e, if_true, show i ≠ R.length by omega, if_false]
      exact hb9 i (by omega)
    · simp only [e, if_false, show i ≠ R.length by omega]
      exact h.inc i j hij (by omega)
theorem TW.tif (h : TW W A a cap R blk vs) : TiF W A W.heap.size a R := fun hne => by
  have hp : 0 < R.length := List.length_pos_iff.2 hne
  obtain ⟨g, cur, rfl, hg, hh, hc⟩ := h.gr.at_ hp
  refine ⟨g, 0, rfl, hg, (Array.getElem?_eq_some_iff.1 hh).1, fun i hi => ?_⟩
  obtain ⟨c, h3, h4⟩ := h.rows i hi
  rw [Nat.zero_add]
  refine ⟨_, c, hc i _ hi h3, h4.room.1, h4.room.2, fun hn => ?_⟩
  have hp2 : 0 < (rwI R i).length := List.length_pos_iff.2 hn
  obtain ⟨b, f, e, k1, k2, k3, k4, k5⟩ := h4.row hp2
  exact ⟨b, 0, e, k1, k2, fun j hj => by rw [Nat.zero_add, k4.cell (by omega), k5 j hj]⟩
theorem TW.tbl (h : TW W A a cap R blk vs) : RowsL W W.heap.size a R := h.tif.rows
theorem TW.room (h : TW W A a cap R blk vs) : R.length ≤ cap ∧ cap ≤ maxLen := h.gr.room
set_option maxRecDepth 10000 in
/-- The outer block is none of the rows' blocks. -/
theorem TW.outer {g : Nat} (h : TW W A (some ⟨g, 0, none⟩) cap R blk vs) {i : Nat} (hi : i < R.length) : ∃ cur, A ≤ g ∧ W.heap[g]? = some (.cells cur 27 (0, 0)) ∧ g ≠ blk i ∧ cur.size = cap ∧ (∀ j v, j < R.length → vs[j]? = some v → cur[j]? = some v) := by
  obtain ⟨c, _, h4⟩ := h.rows i hi
  have hrow : ∃ c5, W.heap[blk i]? = some (.cells c5 3 (0, 0)) := by
    rcases h4.2 with ⟨e, _⟩ | ⟨g5, c5, cur5, e, _, hh5, _⟩
    · injection e with e; cases e
    · injection e with e; injection e with e; injection e with e
      subst e
      exact ⟨_, hh5⟩
  obtain ⟨c5, hh5⟩ := hrow
  rcases h.gr.2 with ⟨e, _⟩ | ⟨g', c2, cur, e, h1, hh, hnc, _, hcs, htk⟩
  · injection e with e; cases e
  · injection e with e e2 e3
    injection e with e
    injection e with e
    subst e e3
    rw [Nat.mul_one] at hcs htk
    refine ⟨cur, h1, hh, fun e => ?_, hcs, fun j v hj hv => ?_⟩
    · rw [e, hh5] at hh
      injection hh with hh
      injection hh with _ hh
      exact absurd hh (by decide)
    · have h2 : (cur.toList.take R.length)[j]? = vs[j]? := by rw [htk]
      rw [List.getElem?_take, if_pos hj, hv] at h2
      simpa using h2
theorem TW.ne (h : TW W A a cap R blk vs) {i j : Nat} (hi : i < R.length) (hj : j < R.length) (hne : i ≠ j) : blk i ≠ blk j := by
  rcases Nat.lt_or_gt_of_ne hne with h1 | h1
  · exact Nat.ne_of_lt (h.inc i j h1 hj)
  · exact Nat.ne_of_gt (h.inc j i h1 hi)
theorem rwI_setR (R : List (List Int)) {i j : Nat} (g : List Int) (hj : j < R.length) : rwI (R.set i g) j = if j = i then g else rwI R j := by
  unfold rwI
  by_cases e : j = i
  · subst e; simp [hj]
  · have e' : ¬ i = j := fun h => e h.symm
    simp [e, List.getElem?_set_ne e']
set_option maxRecDepth 10000 in
/-- One number of one row is written. -/
theorem TW.put {i j : Nat} (h : TW W A a cap R blk vs) (hi : i < R.length) (v : Int) : TW (W.setCell ⟨blk i, j, none⟩ (.int .i64 v)) A a cap (R.set i ((rwI R i).set j v)) blk vs := by
  have hg := Lib.grownBy_setCell W (blk i) j (.int .i64 v)
  obtain ⟨ci, hvi, hgi⟩ := h.rows i hi
  have hobj : ∃ c5, W.heap[blk i]? = some (.cells c5 3 (0, 0)) := by
    rcases hgi.2 with ⟨e, _⟩ | ⟨g5, c5, cur5, e, _, hh5, _⟩
    · injection e with e; cases e
    · injection e with e; injection e with e; injection e with e
      subst e
      exact ⟨_, hh5⟩
  obtain ⟨c5, hh5⟩ := hobj
  refine ⟨by rw [List.length_set]; exact h.gr.typed hg hh5 (by decide), fun x hx => ?_, fun x hx => ?_, fun x y hxy hy => h.inc x y hxy (by rw [List.length_set] at hy; exact hy)⟩
  · rw [List.length_set] at hx
    rw [rwI_setR R _ hx]
    by_cases e : x = i
    · subst e
      rw [if_pos rfl, List.length_set]
      exact ⟨ci, hvi, hgi.put v⟩
    · rw [if_neg e]
      obtain ⟨c, h1, h2⟩ := h.rows x hx
      exact ⟨c, h1, h2.other hg (h.ne hx hi e)⟩
  · rw [List.length_set] at hx
    exact Nat.lt_of_lt_of_le (h.lt x hx) hg.size
set_option maxRecDepth 10000 in
/-- One row is another one now, in its block or in a new one. -/
theorem TW.row {g m n2 c2 : Nat} {a2 : Option Addr} {xs : List Int} {W1 : World} (h : TW W A (some ⟨g, 0, none⟩) cap R blk vs) (hm : m < R.length) (hx : Grow .i64 3 W1 A a2 n2 c2 xs) (hs : W.heap.size ≤ W1.heap.size)
    (hk : ∀ j, j < W.heap.size → j ≠ blk m → W1.heap[j]? = W.heap[j]?) : TiF (W1.setCell ⟨g, m, none⟩ (.slice a2 n2 c2)) A (W1.setCell ⟨g, m, none⟩ (.slice a2 n2 c2)).heap.size (some ⟨g, 0, none⟩) (R.set m xs) := fun _ => by
  obtain ⟨cur, hA, hh, hne, hcs, hcur⟩ := h.outer hm
  have hgl : g < W.heap.size := (Array.getElem?_eq_some_iff.1 hh).1
  have hh1 : W1.heap[g]? = some (.cells cur 27 (0, 0)) := (hk g hgl hne).trans hh
  have hrow : W1.rowIs g 27 cap (fun i => cur.getD i undef) := ⟨cur, hh1, hcs, fun i hi => by simp [show i < cur.size by omega]⟩
  have hg := Lib.grownBy_setCell W1 g m (.slice a2 n2 c2)
  have hr2 := hrow.set m (.slice a2 n2 c2)
  have hcap : R.length ≤ cap := h.room.1
  refine ⟨g, 0, rfl, hA, hr2.lt, fun i hi => ?_⟩
  rw [List.length_set] at hi
  rw [rwI_setR R _ hi, Nat.zero_add, hr2.cell (by omega)]
  by_cases e : i = m
  · subst e
    simp only [if_true]
    have hl := hx.len
    refine ⟨a2, c2, by rw [hl], by rw [hl]; exact hx.room.1, hx.room.2, fun hn => ?_⟩
    have hx2 := hx.typed hg hh1 (by decide)
    obtain ⟨b, f, e, k1, k2, k3, k4, k5⟩ := hx2.row (by rw [← hl]; exact List.length_pos_iff.2 hn)
    exact ⟨b, 0, e, k1, k2, fun j hj => by rw [Nat.zero_add, k4.cell (by omega), k5 j (by omega)]⟩
  · simp only [e, if_false]
    obtain ⟨c, h1, h2⟩ := h.rows i hi
    have h3 := hcur i _ hi h1
    obtain ⟨_, _, _, hne2, _⟩ := h.outer hi
    have hki : (W1.setCell ⟨g, m, none⟩ (.slice a2 n2 c2)).heap[blk i]? = W.heap[blk i]? := (Below.heap_setCell W1 ⟨g, m, none⟩ _ _ (by show blk i ≠ g; exact Ne.symm hne2)).trans (hk _ (h.lt i hi) (h.ne hi hm e))
    refine ⟨some ⟨blk i, 0, none⟩, c, by simp [Array.getD_eq_getD_getElem?, h3], h2.room.1, h2.room.2, fun hn => ?_⟩
    obtain ⟨b, f, e, k1, k2, k3, k4, k5⟩ := h2.row (List.length_pos_iff.2 hn)
    injection e with e
    injection e with e
    subst e
    exact ⟨blk i, 0, rfl, k1, by have := hg.size; omega, fun j hj => by rw [Nat.zero_add, World.cell?_of_block hki, k4.cell (by omega), k5 j hj]⟩
end
end Go.Proofs.Ytnmhiagnmfpipaa
