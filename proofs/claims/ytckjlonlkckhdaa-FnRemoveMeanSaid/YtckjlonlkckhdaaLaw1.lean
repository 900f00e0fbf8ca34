/-
  The laws of HammingDistance and of the triangle, walked: they return true for every code, and write into nothing that was there.
-/
import Derived.Test.YtckjlonlkckhdaaLawMath
import Derived.Test.YtckjlonlkckhdaaDraws
namespace Go.Proofs.Ytckjlonlkckhdaa
open Go.RowKit

theorem zeros_ints (w : World) (n : Nat) : Ints .i64 (w.alloc (.cells (madeCells #[.int .i64 0] n) 3)) (w.heap.size + 1) (some ⟨w.heap.size, 0, none⟩) (zeros n) :=
  ints_of_row ((World.rowIs_made w (.int .i64 0) n 3).congr fun i _ => by rw [zeros_el]) (zeros_length n).symm (by omega)

/-- The state of the loop that turns a list round: q numbers are left. -/
def RevRel (xs : List Int) (w : World) (q n : Nat) (v : Option Addr) (cap : Nat) (wr : World) : Prop :=
  n + q = xs.length ∧ Grow .i64 3 wr w.heap.size v n cap (xs.reverse.take n) ∧ Below w.heap.size w wr
theorem rev_take {xs : List Int} {j n : Nat} (h : n + (j + 1) = xs.length) : xs.reverse.take (n + 1) = xs.reverse.take n ++ [el xs j] := by
  have hn : n < xs.reverse.length := by simp; omega
  rw [List.take_succ_eq_append_getElem hn, List.getElem_reverse]
  congr 2
  rw [el_lt (show j < xs.length by omega)]
  congr 1
  omega
end Go.Proofs.Ytckjlonlkckhdaa
