/-
  From a row's condition on its listed variable to what the walks ask: the library's table lies in its variable. Condition: the row lists it.
-/
import Derived.Test.YtibgpgifdjefnaaDoorSk8
import Derived.Test.YtibgpgifdjefnaaDoorTabs
namespace Go.Proofs.YtibgpgifdjefnaaDoor
open Go.RowKit

set_option maxRecDepth 10000 in
theorem gDb : Tryd.prog.globalNamed "math/bits.deBruijn32tab" = some 0 := by kernel_rfl
set_option maxRecDepth 10000 in
theorem tDb : (Tryd.prog.globals[0]?).map (·.type) = some 83 := by kernel_rfl
set_option maxRecDepth 10000 in
theorem dbTab_of_laid {W : World} {rest : List (String × DataW Unit)} (h : laidMet Tryd.prog (("math/bits.deBruijn32tab", Lib.tabData .u8 dbL) :: rest) W) : DbTab W := by
  have hT := Lib.tabIs_of_head gDb tDb Tryd.underlying83 Tryd.underlying5 (by kernel_rfl) (by kernel_rfl) h
  have hc : ∀ i, i < 32 → W.cell? ⟨0, i, none⟩ = some (.int .u8 (el dbL i)) := fun i hi => hT.cell gDb i hi
  exact ⟨lt_of_cell (hc 0 (by omega)), hc⟩
end Go.Proofs.YtibgpgifdjefnaaDoor
