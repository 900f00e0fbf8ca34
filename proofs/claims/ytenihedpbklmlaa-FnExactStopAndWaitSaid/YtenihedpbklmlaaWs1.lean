/-
  What the tests of arguments, the product of a list with a number, the codes and the spread bits answer. Conditions: lists that can be read; the product: ones with a sign, at most 1000.
-/
import Derived.Test.YtenihedpbklmlaaWsMath
import Derived.Test.YtenihedpbklmlaaPackBits
import Derived.Test.YtenihedpbklmlaaToInts
import Derived.Test.YtenihedpbklmlaaAppendA
namespace Go.Proofs.Ytenihedpbklmlaa
open Go.RowKit

theorem wrapW {n : Int} (h : -1000000000000 ≤ n ∧ n ≤ 1000000000000) : IntKind.i64.wrap n = n := by rw [IntKind.wrap_i64]; omega
theorem wrapW' {n : Int} (h : -1000000000000 ≤ n ∧ n ≤ 1000000000000) : wrap64 n = n := by unfold wrap64; omega
def kOk (k : Int) : Bool := decide (0 ≤ k) && decide (k ≤ 7)
theorem kOk_nat {k : Int} (h : kOk k = true) : ∃ n : Nat, n < 8 ∧ k = (n : Int) := by
  simp only [kOk, Bool.and_eq_true, decide_eq_true_eq] at h
  exact ⟨k.toNat, by omega, by omega⟩
theorem kOk_no {k : Int} (h : kOk k = false) : ¬ (0 ≤ k ∧ k ≤ 7) := by
  intro h2
  simp [kOk, h2.1, h2.2] at h
theorem kOk_of {n : Nat} (h : n < 8) : kOk (n : Int) = true := by
  simp [kOk]; omega
/-- The test of chips. -/
def chW (M : Int) (xs : List Int) : Bool := decide (xs.length ≤ 256) && chOk M xs
def chTo (M : Int) (xs : List Int) (k : Nat) : Prop := ∀ i, i < k → -M ≤ el xs i ∧ el xs i ≤ M
theorem chW_long {M : Int} {xs : List Int} (h : ¬ xs.length ≤ 256) : chW M xs = false := by simp [chW, h]
theorem chW_bad {M : Int} {xs : List Int} {i : Nat} (hi : i < xs.length) (h : ¬ (-M ≤ el xs i ∧ el xs i ≤ M)) : chW M xs = false := by simp [chW, chOk_bad hi h]
theorem chW_good {M : Int} {xs : List Int} (hl : xs.length ≤ 256) (h : chTo M xs xs.length) : chW M xs = true := by simp [chW, chOk_good h, hl]
theorem chW_parts {M : Int} {xs : List Int} (h : chW M xs = true) : xs.length ≤ 256 ∧ chOk M xs = true := by simpa [chW] using h
theorem chTo_next {M : Int} {xs : List Int} {k : Nat} (h : chTo M xs k) (hk : -M ≤ el xs k ∧ el xs k ≤ M) : chTo M xs (k + 1) := fun i hi => by
  by_cases e : i = k
  · subst e; exact hk
  · exact h i (by omega)
/-- A row of the call's own that holds a list. -/
def RowX (W : World) (b : Nat) (xs : List Int) : Prop := W.rowIs b 3 xs.length (fun i => .int .i64 (el xs i))
section
variable {W W' : World} {b : Nat} {xs : List Int}
theorem RowX.cell (h : RowX W b xs) {k : Nat} (hk : k < xs.length) : W.cell? ⟨b, k, none⟩ = some (.int .i64 (el xs k)) := World.rowIs.cell h hk
theorem RowX.frozen (h : RowX W b xs) (k : Nat) : W.frozen? ⟨b, k, none⟩ = false := World.rowIs.frozen h k
theorem RowX.set (h : RowX W b xs) {k : Nat} (_hk : k < xs.length) (v : Int) : RowX (W.setCell ⟨b, k, none⟩ (.int .i64 v)) b (xs.set k v) := by
  unfold RowX
  rw [List.length_set]
  refine (World.rowIs.set h k (.int .i64 v)).congr fun j hj => ?_
  by_cases e : j = k
  · subst e; simp [el, hj]
  · have e2 : k ≠ j := fun h => e h.symm
    simp only [e, if_false, el, List.getD_eq_getElem?_getD, List.getElem?_set_ne e2]
theorem RowX.lt (h : RowX W b xs) : b < W.heap.size := World.rowIs.lt h
theorem RowX.next (h : RowX W b xs) (hb : Below W.heap.size W W') : RowX W' b xs := World.rowIs.of_block h (hb.block b h.lt)
theorem RowX.ints (h : RowX W b xs) : Ints .i64 W W.heap.size (some ⟨b, 0, none⟩) xs := ints_of_row h rfl h.lt
end
set_option maxRecDepth 10000 in
theorem rowX_made (w : World) (F : Nat → Int) (n : Nat) : RowX (w.alloc (.cells (madeCells #[.int .i64 0] n) 3)) w.heap.size (mkX F n 0) := by
  unfold RowX
  rw [mkX_length]
  refine (World.rowIs_made w (.int .i64 0) n 3).congr fun j hj => ?_
  rw [mkX_start]
  simp [el, hj]
set_option maxRecDepth 10000 in
theorem makeX (n : Nat) (hn : n ≤ 1000000) (w : World) : (Instr.makeSlice 23 (.int .i64 (n : Int)) (.int .i64 (n : Int))).run Try.prog w = .ok (.slice (some ⟨w.heap.size, 0, none⟩) n n) (w.alloc (.cells (madeCells #[.int .i64 0] n) 3)) :=
  run_make_row' (P := Try.prog) 23 3 (.int .i64 0) 8 Try.underlying23 Try.infoInt rfl .i64 .i64 n (by omega) (by omega) w
theorem alloc_belowX (w : World) (o : Obj) : Below w.heap.size w (w.alloc o) := (Below.refl _ _).alloc (Nat.le_refl _) o
theorem rowX_post {w W : World} {b n : Nat} {xs : List Int} (h : RowX W b xs) (hl : xs.length ≤ maxLen) (hb : w.heap.size ≤ b) (hbl : Below w.heap.size w W) (hn : n = xs.length) : ListPostC xs w (.returned (.slice (some ⟨b, 0, none⟩) n n)) W := by
  subst hn
  exact listPostC_row h rfl hl hb hbl
/-- One product, as a walk wants it. -/
theorem pm_nums {x f : Int} (hx : -1 ≤ x ∧ x ≤ 1) (hf : -1 ≤ f ∧ f ≤ 1) : ∃ v : Int, x * f = v ∧ IntKind.i64.wrap v = v ∧ wrap64 v = v ∧ (-1 ≤ v ∧ v ≤ 1) := by
  have hx' : x = -1 ∨ x = 0 ∨ x = 1 := by omega
  have hf' : f = -1 ∨ f = 0 ∨ f = 1 := by omega
  refine ⟨_, rfl, ?_⟩
  rcases hx' with rfl | rfl | rfl <;> rcases hf' with rfl | rfl | rfl <;> exact ⟨wrapW (by omega), wrapW' (by omega), by omega⟩
end Go.Proofs.Ytenihedpbklmlaa
