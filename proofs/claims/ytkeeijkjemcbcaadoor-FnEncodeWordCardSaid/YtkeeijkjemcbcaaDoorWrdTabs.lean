/-
  From a row's condition on its listed variables to what the walks ask: the zeros of the symbol code and its generator lie in their variables. Condition: the row lists them behind the two tables of the field.
-/
import Derived.Test.YtkeeijkjemcbcaaDoorFldTabs
import Derived.Test.YtkeeijkjemcbcaaDoorWrd4
namespace Go.Proofs.YtkeeijkjemcbcaaDoor
open Go.RowKit

theorem gZer : Tryd.prog.globalNamed "loop.example/softwareradio/impl.wordZeros" = some 1 := by kernel_rfl
theorem tZer : (Tryd.prog.globals[1]?).map (·.type) = some 42 := by kernel_rfl
theorem gGen : Tryd.prog.globalNamed "loop.example/softwareradio/impl.wordGenerator" = some 0 := by kernel_rfl
theorem tGen : (Tryd.prog.globals[0]?).map (·.type) = some 42 := by kernel_rfl
theorem zerTab_third {W : World} {x y : String × DataW Unit} {rest : List (String × DataW Unit)} (h : laidMet Tryd.prog (x :: y :: ("loop.example/softwareradio/impl.wordZeros", Lib.tabData .i64 zerL) :: rest) W) : ZerTab W := by
  have hP := tabIs_third gZer tZer Tryd.underlying42 Tryd.underlying3 (by kernel_rfl) (by kernel_rfl) h
  have hp : ∀ i, i < 4 → W.cell? ⟨1, i, none⟩ = some (.int .i64 (el zerL i)) := fun i hi => hP.cell gZer i hi
  exact ⟨lt_of_cell (hp 0 (by omega)), hp⟩
theorem genTab_third {W : World} {x y : String × DataW Unit} {rest : List (String × DataW Unit)} (h : laidMet Tryd.prog (x :: y :: ("loop.example/softwareradio/impl.wordGenerator", Lib.tabData .i64 genL) :: rest) W) : GenTab W := by
  have hP := tabIs_third gGen tGen Tryd.underlying42 Tryd.underlying3 (by kernel_rfl) (by kernel_rfl) h
  have hp : ∀ i, i < 4 → W.cell? ⟨0, i, none⟩ = some (.int .i64 (el genL i)) := fun i hi => hP.cell gGen i hi
  exact ⟨lt_of_cell (hp 0 (by omega)), hp⟩
theorem genTab_fourth {W : World} {x y z : String × DataW Unit} {rest : List (String × DataW Unit)} (h : laidMet Tryd.prog (x :: y :: z :: ("loop.example/softwareradio/impl.wordGenerator", Lib.tabData .i64 genL) :: rest) W) : GenTab W := by
  have hP := tabIs_fourth gGen tGen Tryd.underlying42 Tryd.underlying3 (by kernel_rfl) (by kernel_rfl) h
  have hp : ∀ i, i < 4 → W.cell? ⟨0, i, none⟩ = some (.int .i64 (el genL i)) := fun i hi => hP.cell gGen i hi
  exact ⟨lt_of_cell (hp 0 (by omega)), hp⟩
end Go.Proofs.YtkeeijkjemcbcaaDoor
