/-
  The draws of chapter 17, walked. Condition: bytes that can be read.
-/
import Derived.Test.YtibgpgifdjefnaaDoorSkDraw2
import Derived.Test.YtibgpgifdjefnaaDoorSk3
namespace Go.Proofs.YtibgpgifdjefnaaDoor
open Go.RowKit

/-- What the laws draw: a table. -/
def DrawTbP (w : World) (e : Ending) (w' : World) : Prop :=
  ∃ a c R, e = .returned (.slice a R.length c) ∧ (R.length ≤ 9 ∧ ∀ i, i < R.length → (rwB R i).length ≤ 9) ∧ TbL w' w'.heap.size a R ∧ Below w.heap.size w w'
theorem rowCap {R : List (List Bool)} (h : R.length ≤ 9) : R.length ≤ maxLen := by unfold maxLen; omega
set_option maxRecDepth 10000 in
set_option maxHeartbeats 1000000 in
theorem drawBestSlots_any (a : Option Addr) (c : Nat) (ds : List Int) (w : World) (hx : Ints .u8 w w.heap.size a ds) (hw : ∀ n ∈ ds, isByte n) (hc : ds.length ≤ c) (hcm : c ≤ maxLen) :
    Calls Tryd.prog 7 #[.slice a ds.length c] w (DrawTbP w) := by
  have hl : ds.length ≤ maxLen := Nat.le_trans hc hcm
  go_enter Tryd.func7, Tryd.ntmps7
  go_wp2_with fail
  refine (open_any a c ds w hx hw hc hl hcm).mono ?_
  rintro e w1 ⟨rfl, r1, b1⟩
  have R1 := Lib.hid r1
  have B1 := Lib.hid b1
  clear hx hw hc hcm hl r1 b1
  go_wp2_with fail
  refine (l20Conflicts_any w.heap.size 0 7 9 w1 R1.out (by omega) (by omega) (by omega)).mono ?_
  rintro e w2 ⟨a2, c2, R, p2, rfl, h9, ht, _, _, g2⟩
  have HE := Lib.hid (show DrawTbP w (.returned (.slice a2 R.length c2)) w2 from ⟨a2, c2, R, rfl, h9, ht.tbl, below_R B1.out g2⟩)
  clear h9 ht g2
  go_wp2
  go_ret
  exact HE.out
set_option maxRecDepth 10000 in
set_option maxHeartbeats 1000000 in
theorem drawGroupSize_any (a : Option Addr) (c : Nat) (ds : List Int) (w : World) (hx : Ints .u8 w w.heap.size a ds) (hw : ∀ n ∈ ds, isByte n) (hc : ds.length ≤ c) (hcm : c ≤ maxLen) :
    Calls Tryd.prog 15 #[.slice a ds.length c] w (DrawTbP w) := by
  have hl : ds.length ≤ maxLen := Nat.le_trans hc hcm
  go_enter Tryd.func15, Tryd.ntmps15
  go_wp2_with fail
  refine (open_any a c ds w hx hw hc hl hcm).mono ?_
  rintro e w1 ⟨rfl, r1, b1⟩
  have R1 := Lib.hid r1
  have B1 := Lib.hid b1
  clear hx hw hc hcm hl r1 b1
  go_wp2_with fail
  refine (l20Conflicts_any w.heap.size 0 8 9 w1 R1.out (by omega) (by omega) (by omega)).mono ?_
  rintro e w2 ⟨a2, c2, R, p2, rfl, h9, ht, _, _, g2⟩
  have HE := Lib.hid (show DrawTbP w (.returned (.slice a2 R.length c2)) w2 from ⟨a2, c2, R, rfl, h9, ht.tbl, below_R B1.out g2⟩)
  clear h9 ht g2
  go_wp2
  go_ret
  exact HE.out
end Go.Proofs.YtibgpgifdjefnaaDoor
