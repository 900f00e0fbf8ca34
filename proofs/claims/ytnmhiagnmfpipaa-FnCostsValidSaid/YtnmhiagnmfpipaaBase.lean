/-
  Words for memory: what a slice of integers holds in a world, and what a call leaves as it was. No condition; plain lemmas.
-/
import Derived.Test.YtnmhiagnmfpipaaRows
import Derived.WalkKit
import Derived.ProofKit
import Derived.Below
import Derived.Lib.Hide
import Derived.Deep.QuietTactic
import Derived.BigQuiet
import Derived.Deep.OwnRows
import Derived.Deep.WholeRow
namespace Go.Proofs.Ytnmhiagnmfpipaa
open Go.RowKit

/-- Element `i` of a list of integers (0 behind its end): a word of our own, so that the walk leaves it as it stands. -/
def el (xs : List Int) (i : Nat) : Int := xs.getD i 0
theorem el_lt {xs : List Int} {i : Nat} (h : i < xs.length) : el xs i = xs[i] := by simp [el, h]
theorem el_mem {xs : List Int} {i : Nat} (h : i < xs.length) : el xs i ∈ xs := by rw [el_lt h]; exact List.getElem_mem h
theorem take_el {xs : List Int} {i : Nat} (h : i < xs.length) : xs.take (i + 1) = xs.take i ++ [el xs i] := by rw [List.take_succ_eq_append_getElem h, el_lt h]

/-- The slice that begins at `a` holds the integers `xs` (of kind `k`), in a block below `B`; nothing is said of an empty one. -/
def Ints (k : IntKind) (w : World) (B : Nat) (a : Option Addr) (xs : List Int) : Prop :=
  xs ≠ [] → ∃ b off, a = some ⟨b, off, none⟩ ∧ b < B ∧ ∀ i, i < xs.length → w.cell? ⟨b, off + i, none⟩ = some (.int k (el xs i))

section
variable {k : IntKind} {w w' : World} {B B' : Nat} {a : Option Addr} {xs : List Int}
theorem Ints.nil : Ints k w B a [] := fun h => absurd rfl h
theorem Ints.at_ (h : Ints k w B a xs) {i : Nat} (hi : i < xs.length) :
    ∃ b off, a = some ⟨b, off, none⟩ ∧ b < B ∧ w.cell? ⟨b, off + i, none⟩ = some (.int k (el xs i)) := by
  obtain ⟨b, off, e, hb, hc⟩ := h (by intro e; subst e; simp at hi)
  exact ⟨b, off, e, hb, hc i hi⟩
theorem Ints.keep (h : Ints k w B a xs) (hk : ∀ p : Addr, p.block < B → w'.cell? p = w.cell? p) : Ints k w' B a xs := fun hn => by
  obtain ⟨b, off, e, hb, hc⟩ := h hn
  exact ⟨b, off, e, hb, fun i hi => (hk _ hb).trans (hc i hi)⟩
theorem Ints.more (h : Ints k w B a xs) (hB : B ≤ B') : Ints k w B' a xs := fun hn => by
  obtain ⟨b, off, e, hb, hc⟩ := h hn
  exact ⟨b, off, e, Nat.lt_of_lt_of_le hb hB, hc⟩
theorem Ints.below (h : Ints k w B a xs) (hb : Below B w w') : Ints k w' B a xs := h.keep fun _ hp => hb.cell hp
theorem Ints.drewN (h : Ints k w B a xs) (n : Nat) : Ints k (w.drewN n) B a xs := h
end

theorem ret_bool {a b : Bool} (h : a = b) : Ending.returned (.bool a) = .returned (.bool b) := by rw [h]
theorem ret_int {k : IntKind} {a b : Int} (h : a = b) : Ending.returned (.int k a) = .returned (.int k b) := by rw [h]
theorem below_drewN {B : Nat} {a w : World} (h : Below B a w) (n : Nat) : Below B a (w.drewN n) := ⟨h.os, h.tape, h.output, h.size, h.block⟩

set_option maxRecDepth 10000 in
theorem Try.infoInt : (Try.prog.info? 3).map (fun i => (i.zero, i.size, i.bytes)) = some (some (.int .i64 0), 1, 8) := by kernel_rfl

/-- A row of integers that a call made. -/
theorem ints_of_row {w : World} {b t n B : Nat} {k : IntKind} {xs : List Int} (h : w.rowIs b t n (fun i => .int k (el xs i))) (hn : n = xs.length) (hB : b < B) : Ints k w B (some ⟨b, 0, none⟩) xs := fun _ =>
  ⟨b, 0, rfl, hB, fun i hi => by rw [Nat.zero_add]; exact h.cell (by omega)⟩
theorem row_below {w w' : World} {b t n B : Nat} {f : Nat → Value} (h : w.rowIs b t n f) (hb : Below B w w') (hlt : b < B) : w'.rowIs b t n f := h.of_block (hb.block b hlt)

theorem heap_last2 (w : World) (A o : Obj) : ((w.alloc A).alloc o).heap[w.heap.size + 1]? = some o := by
  have := heap_alloc_last (w.alloc A) o
  simpa using this
theorem heap_prev2 (w : World) (A o : Obj) : ((w.alloc A).alloc o).heap[w.heap.size]? = some A := by
  rw [Below.heap_alloc _ _ _ (by simp)]
  exact heap_alloc_last w A

/-- A slice that came in, as the frame opens it: its elements. -/
theorem ints_of_open {k : IntKind} {w : World} {a : Option Addr} {len cap : Nat} {zs : List Int}
    (h : (a = none ∧ len = 0 ∧ cap = 0 ∧ zs = []) ∨
      ∃ x, a = some x ∧ len ≤ cap ∧ cap ≤ maxLen ∧ zs.length = cap ∧ (∀ i, i < zs.length → w.cell? (x.add i) = some (.int k (zs.getD i 0))) ∧ ∀ n ∈ zs, (Lit.int k n).wf = true) :
    ∃ xs : List Int, xs.length = len ∧ Ints k w w.heap.size a xs ∧ ∀ n ∈ xs, (Lit.int k n).wf = true := by
  rcases h with ⟨rfl, rfl, rfl, rfl⟩ | ⟨⟨b, off, spot⟩, rfl, hl, hm, hz, hcell, hwz⟩
  · exact ⟨[], rfl, Ints.nil, by simp⟩
  · refine ⟨zs.take len, by simp; omega, fun hn => ?_, fun n hn => hwz n (List.mem_of_mem_take hn)⟩
    have hlen : (zs.take len).length = len := by simp; omega
    have hpos : 0 < len := by
      rcases Nat.eq_zero_or_pos len with h0 | h0
      · subst h0; simp at hn
      · exact h0
    have h0 := hcell 0 (by omega)
    have hsp : spot = none := by simpa [Addr.add] using World.cell?_spot h0
    subst hsp
    refine ⟨b, off, rfl, ?_, fun i hi => ?_⟩
    · rcases Nat.lt_or_ge b w.heap.size with hlt | hge
      · exact hlt
      · have hnone : w.heap[b]? = none := Array.getElem?_eq_none hge
        simp [Addr.add, World.cell?, hnone] at h0
    · have h1 := hcell i (by omega)
      have hadd : (⟨b, off, none⟩ : Addr).add i = ⟨b, off + i, none⟩ := by unfold Addr.add; split <;> simp_all
      rw [hadd] at h1
      rw [h1]
      have hi2 : i < len := by omega
      simp [el, hi2]

end Go.Proofs.Ytnmhiagnmfpipaa
