/-
  The law of valid tables of conflicts, walked: it returns true for every list of bytes. Condition: bytes that can be read.
-/
import Derived.Test.YtibgpgifdjefnaaDoorSkLaw1
import Derived.Test.YtibgpgifdjefnaaDoorSkRows
import Derived.Deep.Cut
namespace Go.Proofs.YtibgpgifdjefnaaDoor
open Go.RowKit

theorem GVb.keep1 {w w' : World} {base n cap g : Nat} {vs : List Value} (h : GVb w base (some ⟨g, 0, none⟩) n cap vs) (hk : w'.heap[g]? = w.heap[g]?) : GVb w' base (some ⟨g, 0, none⟩) n cap vs := by
  refine ⟨h.1, ?_⟩
  rcases h.2 with h0 | ⟨g2, c2, cur, e, h1, hh, rest⟩
  · exact .inl h0
  · have e2 := e
    injection e2 with e2
    injection e2 with e2
    injection e2 with e2
    subst e2
    exact .inr ⟨g, c2, cur, e, h1, hk.trans hh, rest⟩
set_option maxRecDepth 10000 in
theorem GVb.blk {w : World} {base n cap g : Nat} {vs : List Value} (h : GVb w base (some ⟨g, 0, none⟩) n cap vs) : base ≤ g ∧ ∃ cur, w.heap[g]? = some (.cells cur 29 (0, 0)) := by
  rcases h.2 with ⟨e, _⟩ | ⟨g2, c2, cur, e, h1, hh, rest⟩
  · injection e with e; cases e
  · injection e with e
    injection e with e
    injection e with e
    subst e
    exact ⟨h1, cur, hh⟩
theorem GVb.lt {w : World} {base n cap g : Nat} {vs : List Value} (h : GVb w base (some ⟨g, 0, none⟩) n cap vs) : g < w.heap.size := by
  obtain ⟨_, cur, hh⟩ := h.blk
  exact (Array.getElem?_eq_some_iff.1 hh).1
/-- Both lists of the law: copies of all rows, and beginnings of the first ones. -/
structure CL (w4 W : World) (A : Nat) (R : List (List Bool)) (n ab as_ k m cb cs : Nat) (vb vs : List Value) (blk cps : Nat → Nat) : Prop where
  gb : GVb W A (some ⟨ab, 0, none⟩) k cb vb
  gs : GVb W A (some ⟨as_, 0, none⟩) m cs vs
  ne : ab ≠ as_
  br : BdR W A R k vb blk cps
  sm : ∀ i, i < m → ∃ ad cp, vs[i]? = some (.slice ad n cp) ∧ (n ≤ cp ∧ cp ≤ maxLen) ∧ Bls w4 A ad (rwB R i)
  bl : Below A w4 W
  sz : A ≤ w4.heap.size
section
variable {w4 W W' : World} {A n ab as_ k m cb cs : Nat} {R : List (List Bool)} {vb vs : List Value} {blk cps : Nat → Nat}
theorem CL.next (h : CL w4 W A R n ab as_ k m cb cs vb vs blk cps) (hb : Below W.heap.size W W') : CL w4 W' A R n ab as_ k m cb cs vb vs blk cps :=
  ⟨h.gb.next hb, h.gs.next hb, h.ne, h.br.next hb, h.sm, h.bl.trans (hb.mono (Nat.le_trans h.sz h.bl.size)), h.sz⟩
theorem below_by {w W W' : World} {A g : Nat} (h : Below A w W) (hs : A ≤ w.heap.size) (hg : W.grownBy W' (some g)) (h0 : A ≤ g) : Below A w W' := h.grown hg (Nat.le_trans hs h.size) fun k e => by injection e; omega
set_option maxRecDepth 10000 in
theorem BdR.other (h : BdR W A R k vb blk cps) {g : Nat} {cur : Array Value} (hc : W.heap[g]? = some (.cells cur 29 (0, 0))) (hg : W.grownBy W' (some g)) : BdR W' A R k vb blk cps := h.keep fun x c _ hh => hg.block x (Array.getElem?_eq_some_iff.1 hh).1 fun e => by
  injection e with e
  subst e
  rw [hc] at hh
  injection hh with hh
  injection hh with _ hh _
  exact absurd hh (by decide)
set_option maxRecDepth 10000 in
theorem CL.bad {g' cap' gr c1 : Nat} {f : Nat → Value} (h : CL w4 W A R n ab as_ k m cb cs vb vs blk cps) (h0 : g' = ab ∨ W.heap.size ≤ g') (h1 : GVb W' A (some ⟨g', 0, none⟩) (k + 1) cap' (vb ++ [.slice (some ⟨gr, 0, none⟩) (rwB R k).length c1])) (h2 : W.grownBy W' (some ab))
    (hA : A ≤ gr) (hc : (rwB R k).length ≤ c1 ∧ c1 ≤ maxLen) (hf : W.rowIs gr 4 c1 f) (hfe : ∀ j, j < (rwB R k).length → f j = .bool (bt (rwB R k) j)) (hlt : ∀ i, i < k → blk i < gr) :
    CL w4 W' A R n g' as_ (k + 1) m cap' cs (vb ++ [.slice (some ⟨gr, 0, none⟩) (rwB R k).length c1]) vs (fun i => if i = k then gr else blk i) (fun i => if i = k then c1 else cps i) := by
  obtain ⟨ha, cur, hcur⟩ := h.gb.blk
  have hsl := h.gs.lt
  have hb2 := h.br.other hcur h2
  have hf2 : W'.rowIs gr 4 c1 f := by
    obtain ⟨cc, hcc, _⟩ := id hf
    refine hf.of_block (h2.block gr hf.lt fun e => ?_)
    injection e with e
    subst e
    rw [hcur] at hcc
    injection hcc with hcc
    injection hcc with _ hcc _
    exact absurd hcc (by decide)
  refine ⟨h1, h.gs.keep1 (h2.block _ hsl fun e => h.ne (by injection e with e; exact e.symm)), ?_, hb2.snoc h.gb.len hlt hA hc hf2 hfe, h.sm, below_by h.bl h.sz h2 ha, h.sz⟩
  rcases h0 with rfl | h0
  · exact h.ne
  · omega
theorem CL.small {g' cap' cp : Nat} {ad : Option Addr} (h : CL w4 W A R n ab as_ k m cb cs vb vs blk cps) (h0 : g' = as_ ∨ W.heap.size ≤ g') (h1 : GVb W' A (some ⟨g', 0, none⟩) (m + 1) cap' (vs ++ [.slice ad n cp])) (h2 : W.grownBy W' (some as_))
    (hc : n ≤ cp ∧ cp ≤ maxLen) (hB : Bls w4 A ad (rwB R m)) :
    CL w4 W' A R n ab g' k (m + 1) cb cap' vb (vs ++ [.slice ad n cp]) blk cps := by
  obtain ⟨ha, cur, hcur⟩ := h.gs.blk
  have hsl := h.gb.lt
  have hl := h.gs.len
  refine ⟨h.gb.keep1 (h2.block _ hsl fun e => h.ne (by injection e)), h1, ?_, h.br.other hcur h2, fun i hi => ?_, below_by h.bl h.sz h2 ha, h.sz⟩
  · rcases h0 with rfl | h0
    · exact h.ne
    · omega
  · by_cases e : i = m
    · subst e
      exact ⟨ad, cp, by rw [List.getElem?_append_right (by omega), hl]; simp, hc, hB⟩
    · obtain ⟨ad', cp', k1, k2, k3⟩ := h.sm i (by omega)
      exact ⟨ad', cp', by rw [List.getElem?_append_left (by omega)]; exact k1, k2, k3⟩
end
/-- A table without its last station. -/
def cutT (R : List (List Bool)) (n : Nat) : List (List Bool) := (List.range n).map fun i => (rwB R i).take n
theorem cutT_len (R : List (List Bool)) (n : Nat) : (cutT R n).length = n := by simp [cutT]
theorem cutT_row {R : List (List Bool)} {n i : Nat} (h : i < n) : rwB (cutT R n) i = (rwB R i).take n := by simp [rwB, cutT, h]
theorem cutT_cf {R : List (List Bool)} {n i j : Nat} (hi : i < n) (hj : j < n) : cf (cutT R n) i j = cf R i j := by
  unfold cf
  rw [cutT_row hi]
  unfold bt
  rw [List.getD_eq_getElem?_getD, List.getElem?_take_of_lt hj, ← List.getD_eq_getElem?_getD]
theorem cutT_ok {R : List (List Bool)} {n : Nat} (h : TbOk R) (hn : n ≤ R.length) : TbOk (cutT R n) := by
  refine ⟨by rw [cutT_len]; have := h.1; omega, fun i hi => ?_, fun i hi => ?_⟩
  · rw [cutT_len] at hi
    rw [cutT_row hi, cutT_len, List.length_take, h.2.1 i (by omega)]; omega
  · rw [cutT_len] at hi
    refine ⟨by rw [cutT_cf hi hi]; exact (h.2.2 i (by omega)).1, fun j hj => ?_⟩
    rw [cutT_cf hi (by omega), cutT_cf (by omega) hi]
    exact h.sym i j (by omega) (by omega)
theorem sm_tbl {w4 W : World} {A base n cap : Nat} {a : Option Addr} {R : List (List Bool)} {vs : List Value} (hg : GVb W base a n cap vs) (hs : ∀ i, i < n → ∃ ad cp, vs[i]? = some (.slice ad n cp) ∧ (n ≤ cp ∧ cp ≤ maxLen) ∧ Bls w4 A ad (rwB R i)) (hb : Below A w4 W) (hA : A ≤ W.heap.size) (hr : ∀ i, i < n → n ≤ (rwB R i).length) : TbL W W.heap.size a (cutT R n) := fun hne => by
  have hp : 0 < n := by rw [← cutT_len R n]; exact List.length_pos_iff.2 hne
  obtain ⟨g, cur, rfl, _, hh, hc⟩ := hg.at_ hp
  refine ⟨g, 0, rfl, (Array.getElem?_eq_some_iff.1 hh).1, fun i hi => ?_⟩
  rw [cutT_len] at hi
  obtain ⟨ad, cp, h1, h2, h3⟩ := hs i hi
  have hl : ((rwB R i).take n).length = n := by rw [List.length_take]; have := hr i hi; omega
  rw [cutT_row hi, hl]
  refine ⟨ad, cp, by rw [Nat.zero_add]; exact hc i _ hi h1, h2.1, h2.2, fun _ => ?_⟩
  obtain ⟨b, off, e, hbA, hcc⟩ := h3 (by intro e; have := hr i hi; rw [e] at this; simp at this; omega)
  refine ⟨b, off, e, Nat.lt_of_lt_of_le hbA hA, fun j hj => ?_⟩
  rw [hl] at hj
  rw [hb.cell (p := ⟨b, off + j, none⟩) hbA, hcc j (by have := hr i hi; omega)]
  unfold bt
  rw [List.getD_eq_getElem?_getD (l := (rwB R i).take n), List.getElem?_take_of_lt hj, ← List.getD_eq_getElem?_getD]
/-- A table with a station in conflict with itself. -/
theorem tbB_self {R : List (List Bool)} (h0 : 0 < R.length) (h : cf R 0 0 = true) : tbB R = false := tbB_no fun h2 => by have := (h2.2.2 0 h0).1; rw [h] at this; cases this
theorem set_self {R : List (List Bool)} (h0 : 0 < R.length) (h1 : 0 < (rwB R 0).length) : cf (R.set 0 ((rwB R 0).set 0 true)) 0 0 = true := by
  have er : rwB (R.set 0 ((rwB R 0).set 0 true)) 0 = (rwB R 0).set 0 true := by simp [rwB, h0]
  unfold cf
  rw [er]; simp [bt, h1]
end Go.Proofs.YtibgpgifdjefnaaDoor
