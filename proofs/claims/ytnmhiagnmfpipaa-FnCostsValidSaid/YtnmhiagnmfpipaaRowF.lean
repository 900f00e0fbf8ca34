/-
  Rows of cells of a call's own whose first numbers are known. No condition; plain lemmas.
-/
import Derived.Test.YtnmhiagnmfpipaaMem1
import Derived.Lib.BufferOwn
namespace Go.Proofs.Ytnmhiagnmfpipaa
open Go.RowKit

/-- A row of at least n cells whose first n hold numbers. -/
def RowF (W : World) (b n : Nat) (f : Nat → Int) : Prop := ∃ cap g, n ≤ cap ∧ W.rowIs b 3 cap g ∧ ∀ i, i < n → g i = .int .i64 (f i)
section
variable {W W' : World} {b n : Nat} {f h : Nat → Int}
theorem RowF.cell (r : RowF W b n f) {k : Nat} (hk : k < n) : W.cell? ⟨b, k, none⟩ = some (.int .i64 (f k)) := by
  obtain ⟨cap, g, h1, h2, h3⟩ := r
  rw [World.rowIs.cell h2 (by omega), h3 k hk]
theorem RowF.frozen (r : RowF W b n f) (k : Nat) : W.frozen? ⟨b, k, none⟩ = false := by
  obtain ⟨cap, g, h1, h2, h3⟩ := r
  exact World.rowIs.frozen h2 k
theorem RowF.lt (r : RowF W b n f) : b < W.heap.size := by
  obtain ⟨cap, g, h1, h2, h3⟩ := r
  exact World.rowIs.lt h2
theorem RowF.of_block (r : RowF W b n f) (e : W'.heap[b]? = W.heap[b]?) : RowF W' b n f := by
  obtain ⟨cap, g, h1, h2, h3⟩ := r
  exact ⟨cap, g, h1, World.rowIs.of_block h2 e, h3⟩
theorem RowF.next {B : Nat} (r : RowF W b n f) (hb : Below B W W') (h : b < B) : RowF W' b n f := r.of_block (hb.block b h)
theorem RowF.other (r : RowF W b n f) {c : Nat} (hne : b ≠ c) (k : Nat) (v : Value) : RowF (W.setCell ⟨c, k, none⟩ v) b n f := r.of_block (Below.heap_setCell W ⟨c, k, none⟩ v b hne)
theorem RowF.congr (r : RowF W b n f) (e : ∀ i, i < n → f i = h i) : RowF W b n h := by
  obtain ⟨cap, g, h1, h2, h3⟩ := r
  exact ⟨cap, g, h1, h2, fun i hi => by rw [h3 i hi, e i hi]⟩
theorem RowF.put (r : RowF W b n f) {k : Nat} {v : Int} (e : ∀ i, i < n → h i = if i = k then v else f i) : RowF (W.setCell ⟨b, k, none⟩ (.int .i64 v)) b n h := by
  obtain ⟨cap, g, h1, h2, h3⟩ := r
  refine ⟨cap, _, h1, World.rowIs.set h2 k (.int .i64 v), fun i hi => ?_⟩
  rw [e i hi]
  by_cases e2 : i = k
  · simp [e2]
  · simp only [e2, if_false]; exact h3 i hi
end
set_option maxRecDepth 10000 in
theorem Grow.rowF {W : World} {base b n cap : Nat} {xs : List Int} (h : Grow .i64 3 W base (some ⟨b, 0, none⟩) n cap xs) : RowF W b n (fun i => el xs i) := by
  have hl := h.len
  rcases h.2 with ⟨e, h0⟩ | ⟨g, c, cur, e, hg, hh, hnc, hcm, hcs, htk⟩
  · injection e with e1 _ _; cases e1
  · injection e with e1 e2 e3
    injection e1 with e1
    injection e1 with e1 _
    subst e1 e3
    rw [Nat.mul_one] at hcs htk
    refine ⟨cap, fun i => cur.getD i undef, hnc, ⟨cur, hh, hcs, fun i hi => ?_⟩, fun i hi => ?_⟩
    · simp [show i < cur.size by omega]
    · have h1 : (cur.toList.take n)[i]? = (xs.map (Value.int .i64))[i]? := by rw [htk]
      rw [List.getElem?_take, if_pos hi] at h1
      have hic : i < cur.size := by omega
      have hix : i < xs.length := by omega
      simp [hic, hix] at h1
      simp [hic, h1, el, hix]
theorem rowF_zeros (w : World) (n : Nat) : RowF (w.alloc (.cells (madeCells #[.int .i64 0] n) 3)) w.heap.size n (fun _ => 0) := ⟨n, _, Nat.le_refl _, World.rowIs_made w (.int .i64 0) n 3, fun _ _ => rfl⟩
theorem KeptOut.like {A E : Nat} {u v w : World} (h : KeptOut A E u v) (e1 : w.os = v.os) (e2 : w.tape = v.tape) (e3 : w.output = v.output) (e4 : w.heap = v.heap) : KeptOut A E u w :=
  ⟨e1.trans h.os, e2.trans h.tape, e3.trans h.output, by rw [e4]; exact h.size, fun j hj hd => by rw [e4]; exact h.block j hj hd⟩
theorem keptOut_drewN {A E : Nat} {u v : World} (h : KeptOut A E u v) (n : Nat) : KeptOut A E u (v.drewN n) := ⟨h.os, h.tape, h.output, h.size, h.block⟩
end Go.Proofs.Ytnmhiagnmfpipaa
