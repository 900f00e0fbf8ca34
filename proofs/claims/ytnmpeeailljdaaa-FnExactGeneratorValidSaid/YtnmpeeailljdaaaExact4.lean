/-
  The laws of the exactness of GeneratorValid and DegreeOf, walked: they return true for every number, and leave the world as it was.
-/
import Derived.Test.YtnmpeeailljdaaaGen
namespace Go.Proofs.Ytnmpeeailljdaaa
open Go.RowKit

theorem walkExactGeneratorValid (g : Int) (w : World) : Calls Try.prog 11 #[.int .i64 g] w fun e w' => e = .returned (.bool true) ∧ w = w' := by
  have h1 := specGenValid_any g w
  have h2 := genValid_any g w
  cases hg : genOk g <;> rw [hg] at h1 h2
  all_goals
    have H1 := Lib.hid h1
    have H2 := Lib.hid h2
    clear h1 h2 hg
    go_enter Try.func11, Try.ntmps11
    go_wp2_with (first | (go_at_call 19; refine H1.out.mono ?_; rintro e w' ⟨rfl, rfl⟩) | (go_at_call 18; refine H2.out.mono ?_; rintro e w' ⟨rfl, rfl⟩))
    go_ret
    exact ⟨rfl, rfl⟩
theorem walkExactDegreeOf (g : Int) (w : World) : Calls Try.prog 12 #[.int .i64 g] w fun e w' => e = .returned (.bool true) ∧ w = w' := by
  obtain ⟨d, hd⟩ : ∃ d, d = degOr g := ⟨_, rfl⟩
  have h1 := specDegreeOf_any g w
  have h2 := degreeOf_any g w
  rw [← hd] at h1 h2
  have H1 := Lib.hid h1
  have H2 := Lib.hid h2
  have hne : (d != d) = false := by simp
  clear h1 h2 hd
  go_enter Try.func12, Try.ntmps12
  go_wp2_with (first | (go_at_call 23; refine H1.out.mono ?_; rintro e w' ⟨rfl, rfl⟩) | (go_at_call 20; refine H2.out.mono ?_; rintro e w' ⟨rfl, rfl⟩))
  go_ret
  exact ⟨rfl, rfl⟩
end Go.Proofs.Ytnmpeeailljdaaa
