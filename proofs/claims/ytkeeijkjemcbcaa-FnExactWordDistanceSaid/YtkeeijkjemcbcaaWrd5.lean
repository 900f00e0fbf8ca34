/-
  What the check symbols of eleven symbols are. Conditions: a list that can be read, of eleven elements; the program's tables lie in their variables.
-/
import Derived.Test.YtkeeijkjemcbcaaWrd4
import Derived.Laws.CopyOwn
import Derived.Deep.RegionLaw
namespace Go.Proofs.Ytkeeijkjemcbcaa
open Go.RowKit

/-- The remainder moved up by one; the same, with the multiple of the generator added in the first k places. -/
def up6 (d : Nat → Nat) (n : Nat) : Nat → Nat := fun j => if j < 3 then rem6 d n (j + 1) else 0
def mid6 (d : Nat → Nat) (n F k : Nat) : Nat → Nat := fun j => if j < k then up6 d n j ^^^ fmul F (gen6 j) else up6 d n j
theorem mid6_step (d : Nat → Nat) (n F k : Nat) : (fun i => if i = k then mid6 d n F k k ^^^ fmul F (gen6 k) else mid6 d n F k i) = mid6 d n F (k + 1) := funext fun i => by
  unfold mid6
  by_cases h : i = k
  · subst h; rw [if_pos rfl, if_neg (by omega), if_pos (by omega)]
  · rw [if_neg h]
    by_cases h1 : i < k
    · rw [if_pos h1, if_pos (by omega)]
    · rw [if_neg h1, if_neg (by omega)]
theorem mid6_end (d : Nat → Nat) (n : Nat) {i : Nat} (hi : i < 4) : mid6 d n (d n ^^^ rem6 d n 0) 4 i = rem6 d (n + 1) i := by
  unfold mid6 up6; rw [if_pos hi, rem6]
theorem mid6_lt {d : Nat → Nat} {n F : Nat} (hd : Lt16 d) (hF : F < 16) (k i : Nat) : mid6 d n F k i < 16 := by
  have hu : up6 d n i < 16 := by
    unfold up6; split
    · exact rem6_lt hd n _
    · omega
  unfold mid6; split
  · exact xor_lt hu (fmul_lt hF (gen6_lt i))
  · exact hu
theorem info1 : (Try.prog.info? 3).map (·.size) = some 1 := by kernel_rfl
theorem three_one (a b c : Nat) : ∀ v ∈ [Value.int .i64 a, .int .i64 b, .int .i64 c], v.oneCell' = true := fun v hv => by
  simp only [List.mem_cons, List.not_mem_nil, or_false] at hv
  rcases hv with rfl | rfl | rfl <;> rfl
theorem gen6_el {i : Nat} (h : i < 4) : el genL i = (gen6 i : Int) := by
  have : ∀ i, i < 4 → el genL i = (gen6 i : Int) := by decide +kernel
  exact this i h
theorem gen6_at {i : Nat} (h : i < 4) : (#[Value.int .i64 13, .int .i64 12, .int .i64 8, .int .i64 7] : Array Value)[i]? = some (.int .i64 (gen6 i)) := by
  match i, h with
  | 0, _ | 1, _ | 2, _ | 3, _ => rfl
theorem symbol_at {xs : List Int} {k : Nat} (h : xs.all elOk = true) (hk : k < xs.length) : el xs k = (co xs k : Int) ∧ co xs k < 16 := co_el h hk
end Go.Proofs.Ytkeeijkjemcbcaa
