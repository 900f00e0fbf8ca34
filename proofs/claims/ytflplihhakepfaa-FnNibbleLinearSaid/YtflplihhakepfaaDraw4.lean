/-
  The two drawn lists of a law, the test for bits and the sign of life that the laws use. Conditions: those of a list that can be read.
-/
import Derived.Test.YtflplihhakepfaaDraw3
namespace Go.Proofs.Ytflplihhakepfaa
open Go.RowKit

/-- A slice that came in, with its capacity. -/
theorem ints_of_open2 {k : IntKind} {w : World} {a : Option Addr} {len cap : Nat} {zs : List Int}
    (h : (a = none ∧ len = 0 ∧ cap = 0 ∧ zs = []) ∨
      ∃ x, a = some x ∧ len ≤ cap ∧ cap ≤ maxLen ∧ zs.length = cap ∧ (∀ i, i < zs.length → w.cell? (x.add i) = some (.int k (zs.getD i 0))) ∧ ∀ n ∈ zs, (Lit.int k n).wf = true) :
    ∃ xs : List Int, xs.length = len ∧ Ints k w w.heap.size a xs ∧ (∀ n ∈ xs, (Lit.int k n).wf = true) ∧ xs.length ≤ cap ∧ cap ≤ maxLen := by
  have hc : len ≤ cap ∧ cap ≤ maxLen := by
    rcases h with ⟨_, rfl, rfl, _⟩ | ⟨_, _, h1, h2, _⟩
    · exact ⟨Nat.le_refl _, by unfold maxLen; omega⟩
    · exact ⟨h1, h2⟩
  obtain ⟨xs, h1, h2, h3⟩ := ints_of_open h
  exact ⟨xs, h1, h2, h3, by omega, hc.2⟩

def TwoPost (w : World) (e : Ending) (w' : World) : Prop :=
  ∃ xs ys a b c c', e = .returned (.tuple #[.slice a xs.length c, .slice b ys.length c']) ∧ xs.length ≤ 21 ∧ ys.length ≤ 21 ∧ (∀ x ∈ xs, small x) ∧ (∀ x ∈ ys, small x) ∧
    Ints .i64 w' w'.heap.size a xs ∧ Ints .i64 w' w'.heap.size b ys ∧ Below w.heap.size w w'
theorem dist_10 : distOr [1] [0] = 1 := by decide +kernel
theorem ints_one {w : World} {b : Nat} {t : TypeId} {x : Int} (h : w.heap[b]? = some (.cells #[.int .i64 x] t (0, 0))) (hb : b < w.heap.size) : Ints .i64 w w.heap.size (some ⟨b, 0, none⟩) [x] := fun _ =>
  ⟨b, 0, rfl, hb, fun i hi => by
    have h0 : i = 0 := by simp at hi; exact hi
    subst h0
    rw [cell_of_row _ _ _ _ _ _ h]; rfl⟩
set_option maxHeartbeats 400000 in
theorem alive_any (w : World) : Calls Try.prog 8 #[] w fun e w' => e = .returned (.bool true) ∧ Below w.heap.size w w' := by
  go_enter Try.func8, Try.ntmps8
  go_wp2_with fail
  refine (hamming_any _ _ 1 1 _ _ [1] [0] _ (ints_one (heap_prev2 w _ _) (by simp; omega)) (ints_one (heap_last2 w _ _) (by simp)) (Nat.le_refl _) (Nat.le_refl _)).mono ?_
  rintro e w1 ⟨rfl, b1⟩
  have B1 := Lib.hid (after2 b1).2.2.2
  have hd : (distOr [1] [0] == 1) = true := by rw [dist_10]; rfl
  clear b1
  go_wp2
  go_ret
  exact ⟨rfl, B1.out⟩
end Go.Proofs.Ytflplihhakepfaa
