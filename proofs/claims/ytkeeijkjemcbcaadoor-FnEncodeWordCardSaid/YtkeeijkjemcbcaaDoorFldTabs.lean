/-
  From a row's condition on its listed variables to what the walks ask: the two tables of the field lie in their variables. Condition: the row lists them.
-/
import Derived.Test.YtkeeijkjemcbcaaDoorFld
import Derived.Test.YtkeeijkjemcbcaaDoorTabs
namespace Go.Proofs.YtkeeijkjemcbcaaDoor
open Go.RowKit

theorem gPow : Tryd.prog.globalNamed "loop.example/softwareradio/impl.fieldPowers" = some 3 := by kernel_rfl
theorem tPow : (Tryd.prog.globals[3]?).map (·.type) = some 73 := by kernel_rfl
theorem gLog : Tryd.prog.globalNamed "loop.example/softwareradio/impl.fieldLogarithms" = some 2 := by kernel_rfl
theorem tLog : (Tryd.prog.globals[2]?).map (·.type) = some 72 := by kernel_rfl
theorem tabs2_of_laid {W : World} {rest : List (String × DataW Unit)} (h : laidMet Tryd.prog (("loop.example/softwareradio/impl.fieldPowers", Lib.tabData .i64 powL) :: ("loop.example/softwareradio/impl.fieldLogarithms", Lib.tabData .i64 logL) :: rest) W) : Tabs2 W := by
  have hP := Lib.tabIs_of_head gPow tPow Tryd.underlying73 Tryd.underlying3 (by kernel_rfl) (by kernel_rfl) h
  have hL := tabIs_second gLog tLog Tryd.underlying72 Tryd.underlying3 (by kernel_rfl) (by kernel_rfl) h
  have hp : ∀ i, i < 15 → W.cell? ⟨3, i, none⟩ = some (.int .i64 (el powL i)) := fun i hi => hP.cell gPow i hi
  have hl : ∀ i, i < 16 → W.cell? ⟨2, i, none⟩ = some (.int .i64 (el logL i)) := fun i hi => hL.cell gLog i hi
  exact ⟨⟨lt_of_cell (hp 0 (by omega)), hp⟩, lt_of_cell (hl 0 (by omega)), hl⟩
end Go.Proofs.YtkeeijkjemcbcaaDoor
