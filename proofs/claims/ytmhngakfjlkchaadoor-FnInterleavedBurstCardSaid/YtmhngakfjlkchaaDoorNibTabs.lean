/-
  From a row's condition on its listed variables to what the walks ask: the two tables lie in their variables. Condition: the row lists them.
-/
import Derived.Test.YtmhngakfjlkchaaDoorNib2
import Derived.Test.YtmhngakfjlkchaaDoorTabs
namespace Go.Proofs.YtmhngakfjlkchaaDoor
open Go.RowKit

theorem gSyn : Tryd.prog.globalNamed "loop.example/softwareradio/impl.syndromes" = some 0 := by kernel_rfl
theorem tSyn : (Tryd.prog.globals[0]?).map (·.type) = some 60 := by kernel_rfl
theorem synTab_of_laid {W : World} {rest : List (String × DataW Unit)} (h : laidMet Tryd.prog (("loop.example/softwareradio/impl.syndromes", Lib.tabData .i64 synL) :: rest) W) : SynTab W := by
  have hT := Lib.tabIs_of_head gSyn tSyn Tryd.underlying60 Tryd.underlying3 (by kernel_rfl) (by kernel_rfl) h
  have hc : ∀ i, i < 128 → W.cell? ⟨0, i, none⟩ = some (.int .i64 (el synL i)) := fun i hi => hT.cell gSyn i hi
  exact ⟨lt_of_cell (hc 0 (by omega)), hc⟩
theorem gCor : Tryd.prog.globalNamed "loop.example/softwareradio/impl.corrections" = some 1 := by kernel_rfl
theorem tCor : (Tryd.prog.globals[1]?).map (·.type) = some 62 := by kernel_rfl
theorem corTab_of_laid {W : World} {x : String × DataW Unit} {rest : List (String × DataW Unit)} (h : laidMet Tryd.prog (x :: ("loop.example/softwareradio/impl.corrections", Lib.tabData .i64 corL) :: rest) W) : CorTab W := by
  have hT := tabIs_second gCor tCor Tryd.underlying62 Tryd.underlying3 (by kernel_rfl) (by kernel_rfl) h
  have hc : ∀ i, i < 8 → W.cell? ⟨1, i, none⟩ = some (.int .i64 (el corL i)) := fun i hi => hT.cell gCor i hi
  exact ⟨lt_of_cell (hc 0 (by omega)), hc⟩
end Go.Proofs.YtmhngakfjlkchaaDoor
