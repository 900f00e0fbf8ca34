/-
  What drawing links leaves. No condition but that the reader's position is below 2^38.
-/
import Derived.Test.YtgdfjbdpidileaaPwDraw1
import Derived.Test.YtgdfjbdpidileaaPw10
namespace Go.Proofs.Ytgdfjbdpidileaa
open Go.RowKit

/-- What drawing links keeps on its way: the result's variable, that of the links, the list of the rows, the rows. -/
structure LE (w W : World) (R0 bx : Nat) (N T : Int) (aG : Option Addr) (i capG : Nat) (vs : List Value) (R : List (List Int)) (blk : Nat → Nat) : Prop where
  res : LkVar W w.heap.size (.slice none 0 0) (.int .i64 0) (.int .i64 0)
  var : LkVar W bx (.slice aG i capG) (.int .i64 N) (.int .i64 T)
  gr : GrowV W w.heap.size aG i capG vs
  rows : RowsV W vs R blk
  len : R.length = i
  sep : ∀ i j, i < j → j < R.length → blk i ≠ blk j
  g : w.grownBy W (some R0)
  lo : w.heap.size < bx
  r0 : R0 < w.heap.size
  lor : ∀ j, j < R.length → w.heap.size ≤ blk j
section
variable {w W W' : World} {R0 bx p : Nat} {N T : Int} {aG : Option Addr} {i capG : Nat} {vs : List Value} {R : List (List Int)} {blk : Nat → Nat}
theorem LE.pick (h : LE w W R0 bx N T aG i capG vs R blk) (hr : Rd W R0 p) (hg : W.grownBy W' (some R0)) : LE w W' R0 bx N T aG i capG vs R blk := by
  obtain ⟨x, hx⟩ := hr.obj
  have h0 := h.r0
  have h1 := h.lo
  exact ⟨h.res.grown hg (by omega), h.var.grown hg (by omega), h.gr.typed hg hx (by decide), h.rows.typed hg hx (by decide), h.len, h.sep, grown_trans h.g hg, h.lo, h.r0, h.lor⟩
theorem LE.next (h : LE w W R0 bx N T aG i capG vs R blk) (hb : Below W.heap.size W W') : LE w W' R0 bx N T aG i capG vs R blk :=
  ⟨h.res.next hb, h.var.next hb, h.gr.next hb, h.rows.next hb, h.len, h.sep, Lib.grownBy_below h.g hb, h.lo, h.r0, h.lor⟩
/-- One row more. -/
theorem LE.app (h : LE w W R0 bx N T aG i capG vs R blk) {aG' : Option Addr} {cap' g n c1 : Nat} {xs : List Int} (hx : Grow .i64 3 W 0 (some ⟨g, 0, none⟩) n c1 xs) (hn : n = xs.length) (hgw : w.heap.size ≤ g) (hs : ∀ j, j < R.length → blk j ≠ g)
    (h1 : GrowV W' w.heap.size aG' (i + 1) cap' (vs ++ [.slice (some ⟨g, 0, none⟩) n c1])) (h2 : W.grownBy W' (Value.ownBlock (.slice aG i capG))) :
    LE w (W'.setCell ⟨bx, 0, none⟩ (.slice aG' (i + 1) cap')) R0 bx N T aG' (i + 1) cap' (vs ++ [.slice (some ⟨g, 0, none⟩) n c1]) (R ++ [xs]) (fun j => if j = i then g else blk j) := by
  subst hn
  have hlv : ∀ (j : Nat) (c : Array Value) (t : TypeId) (fr : Nat × Nat), W.heap[j]? = some (Obj.cells c t fr) → t ≠ 29 → W'.heap[j]? = W.heap[j]? := fun j c t fr hj ht => h.gr.leaves h2 hj ht
  have hvar : LkVar W' bx (.slice aG i capG) (.int .i64 N) (.int .i64 T) := World.rowIs.of_block h.var (hlv _ _ _ _ h.var.heap (by decide))
  have hres : LkVar W' w.heap.size (.slice none 0 0) (.int .i64 0) (.int .i64 0) := World.rowIs.of_block h.res (hlv _ _ _ _ h.res.heap (by decide))
  have hg := Lib.grownBy_setCell W' bx 0 (.slice aG' (i + 1) cap')
  have hty := hvar.heap
  have hl := h.len
  have hlo := h.lo
  refine ⟨hres.grown hg (by omega), hvar.setG _, h1.typed hg hty (by decide), fun j hj => ?_, by simp [hl], fun j k hjk hk => ?_, ?_, h.lo, h.r0, fun j hj => ?_⟩
  · by_cases e : j = i
    · subst e
      have e1 : rwI (R ++ [xs]) j = xs := by simp [rwI, ← hl]
      rw [e1]
      simp only [if_true]
      refine ⟨c1, ?_, (hx.leaves fun k c fr hk => hlv _ _ _ _ hk (by decide)).typed hg hty (by decide)⟩
      have hvl := h.gr.len
      simp [hvl]
    · have hj' : j < R.length := by simp at hj; omega
      have e1 : rwI (R ++ [xs]) j = rwI R j := by simp [rwI, List.getElem?_append_left hj']
      obtain ⟨cap, h3, h4⟩ := h.rows j hj'
      rw [e1]
      simp only [e, if_false]
      refine ⟨cap, ?_, (h4.leaves fun k c fr hk => hlv _ _ _ _ hk (by decide)).typed hg hty (by decide)⟩
      rw [List.getElem?_append_left (by have := h.gr.len; omega)]
      exact h3
  · have hk' : k < R.length + 1 := by simpa using hk
    by_cases e : k = i
    · subst e
      simp only [if_true, show j ≠ k by omega, if_false]
      exact hs j (by omega)
    · simp only [e, if_false, show j ≠ i by omega]
      exact h.sep j k hjk (by omega)
  · have hbl := h.gr.keepsBelow h2 h.g.size
    have h3 := grown_below h.g hbl (Nat.le_refl _)
    exact ⟨hg.os.trans h3.os, hg.tape.trans h3.tape, hg.output.trans h3.output, Nat.le_trans h3.size hg.size, fun j hj hne => (hg.block j (Nat.lt_of_lt_of_le hj h3.size) (fun e => by injection e; omega)).trans (h3.block j hj hne)⟩
  · by_cases e : j = i
    · simp only [e, if_true]; exact hgw
    · simp only [e, if_false]
      exact h.lor j (by simp at hj; omega)
end
end Go.Proofs.Ytgdfjbdpidileaa
