/-
  What FilterSequence and its model answer, for every two lists. Condition: the lists can be read; the model: the lengths can be.
-/
import Derived.Test.YtgdfjbdpidileaaSeqMath4
import Derived.Test.YtgdfjbdpidileaaBits1
import Derived.Test.YtgdfjbdpidileaaPack
import Derived.Test.YtgdfjbdpidileaaOne
import Derived.StillTailTactics
import Derived.StillTail
namespace Go.Proofs.Ytgdfjbdpidileaa
open Go.RowKit

/-- Cell m of the convolution of two lists, when i rows and j numbers of the next are added. -/
def cvX (xs ys : List Int) (i j m : Nat) : Int := cvR (el xs) (el ys) i j m
theorem cvX_start (xs ys : List Int) (m : Nat) : cvX xs ys 0 0 m = 0 := cvR_start _ _ m
theorem cvX_row (xs ys : List Int) (i m : Nat) : cvX xs ys i ys.length m = cvX xs ys (i + 1) 0 m := cvR_row (fun _ h => el_out h) i m
theorem cvX_done {xs ys : List Int} (hx : 0 < xs.length) (m : Nat) : cvX xs ys xs.length 0 m = el (cvL xs ys) m := by
  rw [cvL_el hx]; exact cvR_done (fun _ h => el_out h) m
/-- One product added to its cell. -/
theorem row_cvX {w : World} {b : Nat} {t : TypeId} {n i j : Nat} {xs ys : List Int} (h : w.rowIs b t n fun m => .int .i64 (cvX xs ys i j m)) {v : Int} (hv : v = cvX xs ys i j (i + j) + el xs i * el ys j) :
    (w.setCell ⟨b, i + j, none⟩ (.int .i64 v)).rowIs b t n fun m => .int .i64 (cvX xs ys i (j + 1) m) := by
  refine (h.set (i + j) (.int .i64 v)).congr fun m _ => ?_
  unfold cvX at *
  by_cases e : m = i + j
  · subst e; simp [cvR_step, hv]
  · simp [e, cvR_step]
theorem cvX_in {xs ys : List Int} (hx : seqOk xs = true) (hy : seqOk ys = true) {i j m : Nat} (hi : i ≤ 200) : -1000000000 ≤ cvX xs ys i j m ∧ cvX xs ys i j m ≤ 1000000000 := cvR_in hx hy hi
theorem wrapS {n : Int} (h : -1000000000000 ≤ n ∧ n ≤ 1000000000000) : IntKind.i64.wrap n = n := by rw [IntKind.wrap_i64]; omega
theorem wrapS' {n : Int} (h : -1000000000000 ≤ n ∧ n ≤ 1000000000000) : wrap64 n = n := by unfold wrap64; omega
/-- The numbers of one product. -/
theorem cv_nums {xs ys : List Int} (hx : seqOk xs = true) (hy : seqOk ys = true) {i j : Nat} (hi : i < xs.length) : ∃ p q u v z : Int, p = el xs i ∧ q = el ys j ∧ u = p * q ∧ z = cvX xs ys i j (i + j) ∧ v = z + u ∧
    (-1000000000000 ≤ u ∧ u ≤ 1000000000000) ∧ (-1000000000000 ≤ v ∧ v ≤ 1000000000000) := by
  have h1 := prod_in (seqOk_in hx i) (seqOk_in hy j)
  have h2 := cvX_in hx hy (i := i) (j := j) (m := i + j) (by have := seqOk_len hx; omega)
  exact ⟨_, _, _, _, _, rfl, rfl, rfl, rfl, rfl, by omega, by omega⟩

end Go.Proofs.Ytgdfjbdpidileaa
