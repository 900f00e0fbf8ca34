/-
  The law of PowerNoise, walked: it returns true for every code, and writes into nothing that was there. No condition.
-/
import Derived.Test.YtgdfjbdpidileaaPwDraw4
import Derived.Test.YtgdfjbdpidileaaPw8
namespace Go.Proofs.Ytgdfjbdpidileaa
open Go.RowKit

theorem aliveP_from {w W : World} (hB : Below w.heap.size w W) : Calls Try.prog 7 #[] W fun e w' => e = .returned (.bool true) ∧ Below w.heap.size w w' := (alive_any W).mono fun _ _ ⟨h1, h2⟩ => ⟨h1, Below.next hB (Nat.le_refl _) h2⟩
theorem lpPost_law {f : FuncId} {args : Array Value} {R : List (List Int)} {N T : Int} {S : List Int} {M : Bool} {w : World} (h : Calls Try.prog f args w (LpPost R N T w)) (hS : lpL R N T = S) (hM : decide (MtOk R N T S) = M) :
    Calls Try.prog f args w fun e w' => ∃ v c, e = .returned (.tuple #[.slice v S.length c, .bool M]) ∧ (S.length ≤ c ∧ c ≤ maxLen) ∧ OwnInts .i64 3 w' w.heap.size v S ∧ Below w.heap.size w w' := h.mono fun e w' => by
  rintro ⟨v, c, rfl, h1, h2, h3⟩
  subst hS hM
  exact ⟨v, c, rfl, h1, h2, h3⟩
theorem lpL_len (R : List (List Int)) (N T : Int) : (lpL R N T).length ≤ 5 := by
  by_cases h : LkOk R N T
  · rw [(lpL_ok h).1]; exact h.1.2
  · rw [lpL_no h]; exact Nat.zero_le _
end Go.Proofs.Ytgdfjbdpidileaa
