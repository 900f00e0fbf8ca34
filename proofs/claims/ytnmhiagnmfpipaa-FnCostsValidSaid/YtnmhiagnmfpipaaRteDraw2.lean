/-
  The draws of chapter 18, walked. Condition: bytes that can be read.
-/
import Derived.Test.YtnmhiagnmfpipaaRteDraw
import Derived.OwnWalk
namespace Go.Proofs.Ytnmhiagnmfpipaa
open Go.RowKit

/-- What the laws draw: a table; a table and a number; a table and two numbers. -/
def DrawTiP (w : World) (e : Ending) (w' : World) : Prop :=
  ∃ a c R, e = .returned (.slice a R.length c) ∧ (1 ≤ R.length ∧ R.length ≤ 7) ∧ (R.length ≤ c ∧ c ≤ maxLen) ∧ RowsL w' w'.heap.size a R ∧ Below w.heap.size w w'
def DrawTi1P (w : World) (e : Ending) (w' : World) : Prop :=
  ∃ a c R t, e = .returned (.tuple #[.slice a R.length c, .int .i64 t]) ∧ (1 ≤ R.length ∧ R.length ≤ 7) ∧ (R.length ≤ c ∧ c ≤ maxLen) ∧ RowsL w' w'.heap.size a R ∧ Below w.heap.size w w'
def DrawTi2P (w : World) (e : Ending) (w' : World) : Prop :=
  ∃ a c R f t, e = .returned (.tuple #[.slice a R.length c, .int .i64 f, .int .i64 t]) ∧ (1 ≤ R.length ∧ R.length ≤ 7) ∧ (R.length ≤ c ∧ c ≤ maxLen) ∧ RowsL w' w'.heap.size a R ∧ Below w.heap.size w w'
set_option maxRecDepth 10000 in
set_option maxHeartbeats 1000000 in
theorem drawCostsValid_any (a : Option Addr) (c : Nat) (ds : List Int) (w : World) (hx : Ints .u8 w w.heap.size a ds) (hw : ∀ n ∈ ds, isByte n) (hc : ds.length ≤ c) (hcm : c ≤ maxLen) :
    Calls Try.prog 15 #[.slice a ds.length c] w (DrawTiP w) := by
  have hl : ds.length ≤ maxLen := Nat.le_trans hc hcm
  go_enter Try.func15, Try.ntmps15
  go_wp2_with fail
  refine (open_any a c ds w hx hw hc hl hcm).mono ?_
  rintro e w1 ⟨rfl, r1, b1⟩
  have R1 := Lib.hid r1
  have B1 := Lib.hid b1
  clear hx hw hc hcm hl r1 b1
  go_wp2_with fail
  refine (l20Costs_any w.heap.size 0 2 w1 R1.out (by omega) (by omega)).mono ?_
  rintro e w2 ⟨a2, c2, R, p2, rfl, h7, hc2, ht, _, _, g2⟩
  have HE := Lib.hid (show DrawTiP w (.returned (.slice a2 R.length c2)) w2 from ⟨a2, c2, R, rfl, h7, hc2, ht.rows, below_R B1.out g2⟩)
  clear h7 hc2 ht g2
  go_wp2
  go_ret
  exact HE.out
theorem quo_small {z m : Int} (hz : 0 ≤ z) (hm : z < 16) (h0 : 0 < m) : ∃ q : Int, z.tdiv m = q ∧ 0 ≤ q ∧ q ≤ 16 := by
  refine ⟨_, rfl, ?_, ?_⟩
  · rw [Int.tdiv_eq_ediv_of_nonneg hz]; exact Int.ediv_nonneg hz (Int.le_of_lt h0)
  · rw [Int.tdiv_eq_ediv_of_nonneg hz]
    exact Int.le_trans (Int.ediv_le_self m hz) (by omega)
set_option maxRecDepth 10000 in
set_option maxHeartbeats 2000000 in
theorem drawLeastCosts_any (a : Option Addr) (c : Nat) (ds : List Int) (w : World) (hx : Ints .u8 w w.heap.size a ds) (hw : ∀ n ∈ ds, isByte n) (hc : ds.length ≤ c) (hcm : c ≤ maxLen) :
    Calls Try.prog 19 #[.slice a ds.length c] w (DrawTi1P w) := by
  have hl : ds.length ≤ maxLen := Nat.le_trans hc hcm
  go_enter Try.func19, Try.ntmps19
  go_wp2_with fail
  refine (open_any a c ds w hx hw hc hl hcm).mono ?_
  rintro e w1 ⟨rfl, r1, b1⟩
  have R1 := Lib.hid r1
  have B1 := Lib.hid b1
  clear hx hw hc hcm hl r1 b1
  go_wp2_with fail
  refine (l20Costs_any w.heap.size 0 12 w1 R1.out (by omega) (by omega)).mono ?_
  rintro e w2 ⟨a2, c2, R, p2, rfl, h7, hc2, ht, r2, hp2, g2⟩
  have H7 := Lib.hid h7
  have HC := Lib.hid hc2
  have T2 := Lib.hid ht
  have R2 := Lib.hid r2
  have B2 := Lib.hid (below_R B1.out g2)
  have S1 := Lib.hid R1.out.lt
  have S2 := Lib.hid g2.size
  have r0 := wrapW (n := (R.length : Int) + 1) (by omega)
  have r0' := wrapW' (n := (R.length : Int) + 1) (by omega)
  clear hc2 ht r2 g2
  go_wp2_with fail
  clear r0 r0'
  refine (pick_any w.heap.size p2 ((R.length : Int) + 1) w2 R2.out (by omega) (by omega) (by omega)).mono ?_
  rintro e w3 ⟨y, ⟨hy, hy'⟩, rfl, r3, g3⟩
  have R3 := Lib.hid r3
  have T3 := Lib.hid (T2.out.pick g3 S1.out (Nat.le_refl _))
  have B3 := Lib.hid (below_R B2.out g3)
  have S3 := Lib.hid g3.size
  clear r3 g3
  go_wp2_with fail
  refine (pick_any w.heap.size (p2 + 1) 12 w3 R3.out (by omega) (by omega) (by omega)).mono ?_
  rintro e w4 ⟨z, ⟨hz, hz'⟩, rfl, r4, g4⟩
  have T4 := Lib.hid (T3.out.pick g4 S1.out S3.out)
  have B4 := Lib.hid (below_R B3.out g4)
  have S4 := Lib.hid (Nat.le_trans S3.out g4.size)
  obtain ⟨q, hq, hq0, hq1⟩ := quo_small (m := 11) hz (by omega) (by omega)
  have k1 := wrapW (n := q) (by omega)
  have k1' := wrapW' (n := q) (by omega)
  have k2 := wrapW (n := y - q) (by omega)
  have k2' := wrapW' (n := y - q) (by omega)
  clear r4 g4
  go_wp2
  go_ret2
  exact ⟨a2, c2, R, _, rfl, H7.out, HC.out, fun hne => T4.out.rows.more S4.out hne, B4.out⟩
/-- A drawn table and two numbers; only the reader was written besides. -/
def EndsP (R0 : Nat) (w : World) (e : Ending) (w' : World) : Prop :=
  ∃ a c R f t, e = .returned (.tuple #[.slice a R.length c, .int .i64 f, .int .i64 t]) ∧ (1 ≤ R.length ∧ R.length ≤ 7) ∧ (R.length ≤ c ∧ c ≤ maxLen) ∧ RowsL w' w'.heap.size a R ∧ w.grownBy w' (some R0)
set_option maxRecDepth 10000 in
set_option maxHeartbeats 2000000 in
theorem l20Ends_any (R0 p : Nat) (w : World) (hr : Rd w R0 p) (hp : p ≤ 1000000) :
    Calls Try.prog 51 #[.pointer (some ⟨R0, 0, none⟩)] w (EndsP R0 w) := by
  have S1 := Lib.hid hr.lt
  have G0 : w.grownBy w (some R0) := ⟨rfl, rfl, rfl, Nat.le_refl _, fun _ _ _ => rfl⟩
  go_enter Try.func51, Try.ntmps51
  go_wp2_with fail
  refine (l20Costs_any R0 p 14 w hr (by omega) (by omega)).mono ?_
  rintro e w2 ⟨a2, c2, R, p2, rfl, h7, hc2, ht, r2, hp2, g2⟩
  have H7 := Lib.hid h7
  have HC := Lib.hid hc2
  have T2 := Lib.hid ht
  have R2 := Lib.hid r2
  have G2 := Lib.hid (grown_trans G0 g2)
  clear hc2 ht r2 g2 G0 hr
  go_wp2_with fail
  refine (pick_any R0 p2 (R.length : Int) w2 R2.out (by omega) (by omega) (by omega)).mono ?_
  rintro e w3 ⟨y, ⟨hy, hy'⟩, rfl, r3, g3⟩
  have R3 := Lib.hid r3
  have T3 := Lib.hid (T2.out.pick g3 S1.out (Nat.le_refl _))
  have G3 := Lib.hid (grown_trans G2.out g3)
  have S3 := Lib.hid g3.size
  clear r3 g3
  go_wp2_with fail
  refine (pick_any R0 (p2 + 1) 16 w3 R3.out (by omega) (by omega) (by omega)).mono ?_
  rintro e w4 ⟨z, ⟨hz, hz'⟩, rfl, r4, g4⟩
  have R4 := Lib.hid r4
  have T4 := Lib.hid (T3.out.pick g4 S1.out S3.out)
  have G4 := Lib.hid (grown_trans G3.out g4)
  have S4 := Lib.hid (Nat.le_trans S3.out g4.size)
  obtain ⟨q, hq, hq0, hq1⟩ := quo_small (m := 15) hz (by omega) (by omega)
  have k1 := wrapW (n := q) (by omega)
  have k1' := wrapW' (n := q) (by omega)
  have k2 := wrapW (n := q * 9) (by omega)
  have k2' := wrapW' (n := q * 9) (by omega)
  have k3 := wrapW (n := y + q * 9) (by omega)
  have k3' := wrapW' (n := y + q * 9) (by omega)
  clear r4 g4
  go_wp2_with fail
  clear k1 k1' k2 k2' k3 k3'
  refine (pick_any R0 (p2 + 1 + 1) (R.length : Int) w4 R4.out (by omega) (by omega) (by omega)).mono ?_
  rintro e w5 ⟨y2, ⟨hy2, hy2'⟩, rfl, r5, g5⟩
  have R5 := Lib.hid r5
  have T5 := Lib.hid (T4.out.pick g5 S1.out S4.out)
  have G5 := Lib.hid (grown_trans G4.out g5)
  have S5 := Lib.hid (Nat.le_trans S4.out g5.size)
  clear r5 g5
  go_wp2_with fail
  refine (pick_any R0 (p2 + 1 + 1 + 1) 16 w5 R5.out (by omega) (by omega) (by omega)).mono ?_
  rintro e w6 ⟨z2, ⟨hz2, hz2'⟩, rfl, r6, g6⟩
  have T6 := Lib.hid (T5.out.pick g6 S1.out S5.out)
  have G6 := Lib.hid (grown_trans G5.out g6)
  have S6 := Lib.hid (Nat.le_trans S5.out g6.size)
  obtain ⟨q2, hq2, hq20, hq21⟩ := quo_small (m := 15) hz2 (by omega) (by omega)
  have k1 := wrapW (n := q2) (by omega)
  have k1' := wrapW' (n := q2) (by omega)
  have k2 := wrapW (n := y2 - q2) (by omega)
  have k2' := wrapW' (n := y2 - q2) (by omega)
  clear r6 g6
  go_wp2
  go_ret3
  exact ⟨a2, c2, R, _, _, rfl, H7.out, HC.out, fun hne => T6.out.rows.more S6.out hne, G6.out⟩
set_option maxRecDepth 10000 in
set_option maxHeartbeats 1000000 in
theorem drawNextStation_any (a : Option Addr) (c : Nat) (ds : List Int) (w : World) (hx : Ints .u8 w w.heap.size a ds) (hw : ∀ n ∈ ds, isByte n) (hc : ds.length ≤ c) (hcm : c ≤ maxLen) :
    Calls Try.prog 23 #[.slice a ds.length c] w (DrawTi2P w) := by
  have hl : ds.length ≤ maxLen := Nat.le_trans hc hcm
  go_enter Try.func23, Try.ntmps23
  go_wp2_with fail
  refine (open_any a c ds w hx hw hc hl hcm).mono ?_
  rintro e w1 ⟨rfl, r1, b1⟩
  have R1 := Lib.hid r1
  have B1 := Lib.hid b1
  clear hx hw hc hcm hl r1 b1
  go_wp2_with fail
  refine (l20Ends_any w.heap.size 0 w1 R1.out (by omega)).mono ?_
  rintro e w2 ⟨a2, c2, R, f, t, rfl, h7, hc2, ht, g2⟩
  have HE := Lib.hid (show DrawTi2P w (.returned (.tuple #[.slice a2 R.length c2, .int .i64 f, .int .i64 t])) w2 from ⟨a2, c2, R, f, t, rfl, h7, hc2, ht, below_R B1.out g2⟩)
  clear h7 hc2 ht g2
  go_wp2
  go_ret3
  exact HE.out
set_option maxRecDepth 10000 in
set_option maxHeartbeats 1000000 in
theorem drawRouteTo_any (a : Option Addr) (c : Nat) (ds : List Int) (w : World) (hx : Ints .u8 w w.heap.size a ds) (hw : ∀ n ∈ ds, isByte n) (hc : ds.length ≤ c) (hcm : c ≤ maxLen) :
    Calls Try.prog 26 #[.slice a ds.length c] w (DrawTi2P w) := by
  have hl : ds.length ≤ maxLen := Nat.le_trans hc hcm
  go_enter Try.func26, Try.ntmps26
  go_wp2_with fail
  refine (open_any a c ds w hx hw hc hl hcm).mono ?_
  rintro e w1 ⟨rfl, r1, b1⟩
  have R1 := Lib.hid r1
  have B1 := Lib.hid b1
  clear hx hw hc hcm hl r1 b1
  go_wp2_with fail
  refine (l20Ends_any w.heap.size 0 w1 R1.out (by omega)).mono ?_
  rintro e w2 ⟨a2, c2, R, f, t, rfl, h7, hc2, ht, g2⟩
  have HE := Lib.hid (show DrawTi2P w (.returned (.tuple #[.slice a2 R.length c2, .int .i64 f, .int .i64 t])) w2 from ⟨a2, c2, R, f, t, rfl, h7, hc2, ht, below_R B1.out g2⟩)
  clear h7 hc2 ht g2
  go_wp2
  go_ret3
  exact HE.out
set_option maxRecDepth 10000 in
set_option maxHeartbeats 1000000 in
theorem drawCutLink_any (a : Option Addr) (c : Nat) (ds : List Int) (w : World) (hx : Ints .u8 w w.heap.size a ds) (hw : ∀ n ∈ ds, isByte n) (hc : ds.length ≤ c) (hcm : c ≤ maxLen) :
    Calls Try.prog 29 #[.slice a ds.length c] w (DrawTi2P w) := by
  have hl : ds.length ≤ maxLen := Nat.le_trans hc hcm
  go_enter Try.func29, Try.ntmps29
  go_wp2_with fail
  refine (open_any a c ds w hx hw hc hl hcm).mono ?_
  rintro e w1 ⟨rfl, r1, b1⟩
  have R1 := Lib.hid r1
  have B1 := Lib.hid b1
  clear hx hw hc hcm hl r1 b1
  go_wp2_with fail
  refine (l20Ends_any w.heap.size 0 w1 R1.out (by omega)).mono ?_
  rintro e w2 ⟨a2, c2, R, f, t, rfl, h7, hc2, ht, g2⟩
  have HE := Lib.hid (show DrawTi2P w (.returned (.tuple #[.slice a2 R.length c2, .int .i64 f, .int .i64 t])) w2 from ⟨a2, c2, R, f, t, rfl, h7, hc2, ht, below_R B1.out g2⟩)
  clear h7 hc2 ht g2
  go_wp2
  go_ret3
  exact HE.out
end Go.Proofs.Ytnmhiagnmfpipaa
