/-
  How the laws of the finite field draw elements and lists of them: what comes out, and what it leaves. Condition: the code has at most 2^20 bytes.
-/
import Derived.Test.YtlaofbaglepkgaaFldMath
import Derived.Test.YtlaofbaglepkgaaDraws
namespace Go.Proofs.Ytlaofbaglepkgaa
open Go.RowKit

/-- What drawing an element leaves: an element, or one of its neighbours. -/
def ElPost (R p : Nat) (w : World) (e : Ending) (w' : World) : Prop :=
  ∃ v : Int, (-1 ≤ v ∧ v ≤ 16) ∧ e = .returned (.int .i64 v) ∧ ∃ p', p' ≤ p + 2 ∧ Rd w' R p' ∧ w.grownBy w' (some R)
theorem element_cell {w1 w3 : World} {k R : Nat} (g3 : (w1.alloc (.cells #[.int .i64 (-1), .int .i64 16] 3)).grownBy w3 (some R)) (hR : R < w1.heap.size) (hk : k < 2) :
    ∃ x : Int, (-1 ≤ x ∧ x ≤ 16) ∧ w3.cell? ⟨w1.heap.size, k, none⟩ = some (.int .i64 x) := by
  rw [cell_grown g3 rfl hR]
  match k, hk with
  | 0, _ => exact ⟨_, ⟨by decide, by decide⟩, rfl⟩
  | 1, _ => exact ⟨_, ⟨by decide, by decide⟩, rfl⟩
  | (m + 2), h => exact absurd h (by omega)
set_option maxHeartbeats 1000000 in
theorem element_any (R p : Nat) (n : Int) (w : World) (hr : Rd w R p) (hp : p ≤ 549755813888) (hn1 : 1 ≤ n) (hn2 : n ≤ 1000000) :
    Calls Try.prog 9 #[.pointer (some ⟨R, 0, none⟩), .int .i64 n] w (ElPost R p w) := by
  have HR0 := Lib.hid hr
  have hRw := hr.lt
  clear hr
  go_enter Try.func9, Try.ntmps9
  go_wp2_with fail
  refine (odd_any R p n w HR0.out (by omega) hn1 (by omega)).mono ?_
  rintro e w1 ⟨b1, rfl, r1, g1⟩
  have R1 := Lib.hid r1
  have G1 := Lib.hid g1
  have hs1 : w.heap.size ≤ w1.heap.size := g1.size
  clear r1 g1
  cases b1
  · go_wp2_with fail
    refine (pick_any R (p + 1) 16 w1 R1.out (by omega) (by omega) (by omega)).mono ?_
    rintro e w2 ⟨v2, ⟨hv2, hv2'⟩, rfl, r2, g2⟩
    have R2 := Lib.hid r2
    have G2 := Lib.hid (grown_trans G1.out g2)
    clear r2 g2
    go_wp2
    go_ret
    exact ⟨v2, ⟨by omega, by omega⟩, rfl, p + 1 + 1, by omega, R2.out, G2.out⟩
  · go_wp2_with fail
    refine (pick_any R (p + 1) 2 _ (R1.out.alloc _) (by omega) (by omega) (by omega)).mono ?_
    rintro e w3 ⟨v3, ⟨hv3, hv3'⟩, rfl, r3, g3⟩
    obtain ⟨k, rfl⟩ := Int.eq_ofNat_of_zero_le hv3
    have hk : k < 2 := by omega
    obtain ⟨x, hx, hc⟩ := element_cell g3 (by omega) hk
    have HX := Lib.hid hx
    have R3 := Lib.hid r3
    have G3 := Lib.hid (grown_trans (grown_alloc G1.out _) g3)
    clear r3 g3 hx hv3 hv3'
    go_wp2
    go_ret
    exact ⟨x, HX.out, rfl, p + 1 + 1, by omega, R3.out, G3.out⟩

/-- A drawn list of about n elements; only the reader was written besides. -/
def ElsPost (R p n : Nat) (w : World) (e : Ending) (w' : World) : Prop :=
  ∃ xs ad m cap p', e = .returned (.slice (some ad) m cap) ∧ m ≤ n + 1 ∧ Grow .i64 3 w' w.heap.size (some ad) m cap xs ∧ Rd w' R p' ∧ p' ≤ p + n + 8 ∧ w.grownBy w' (some R)
/-- The state of the loop that draws: m are drawn. -/
def ElsRel (R p : Nat) (w : World) (m : Nat) (v : Option Addr) (cap : Nat) (wr : World) : Prop :=
  ∃ xs ad p', v = some ad ∧ Grow .i64 3 wr w.heap.size v m cap xs ∧ Rd wr R p' ∧ p' ≤ p + m ∧ w.grownBy wr (some R)
/-- Two drawn elements. -/
def TwoEls (w : World) (e : Ending) (w' : World) : Prop :=
  ∃ a b : Int, (-1 ≤ a ∧ a ≤ 16) ∧ (-1 ≤ b ∧ b ≤ 16) ∧ e = .returned (.tuple #[.int .i64 a, .int .i64 b]) ∧ Below w.heap.size w w'
def OneEl (w : World) (e : Ending) (w' : World) : Prop :=
  ∃ a : Int, (-1 ≤ a ∧ a ≤ 16) ∧ e = .returned (.int .i64 a) ∧ Below w.heap.size w w'
/-- A drawn list and a drawn element. -/
def ListEl (w : World) (e : Ending) (w' : World) : Prop :=
  ∃ xs a c x, e = .returned (.tuple #[.slice a xs.length c, .int .i64 x]) ∧ (xs.length ≤ 20 ∧ xs.length ≤ c ∧ c ≤ maxLen) ∧ (-1 ≤ x ∧ x ≤ 16) ∧ Ints .i64 w' w'.heap.size a xs ∧ Below w.heap.size w w'
set_option maxHeartbeats 400000 in
theorem drawFieldAdd_any (a : Option Addr) (c : Nat) (ds : List Int) (w : World) (hx : Ints .u8 w w.heap.size a ds) (hw : ∀ n ∈ ds, isByte n) (hc : ds.length ≤ c) (hcm : c ≤ maxLen) :
    Calls Try.prog 4 #[.slice a ds.length c] w (TwoEls w) := by
  have hl : ds.length ≤ maxLen := Nat.le_trans hc hcm
  go_enter Try.func4, Try.ntmps4
  go_wp2_with fail
  refine (open_any a c ds w hx hw hc hl hcm).mono ?_
  rintro e w1 ⟨rfl, r1, b1⟩
  have R1 := Lib.hid r1
  have B1 := Lib.hid b1
  clear hx hw hc hcm hl r1 b1
  go_wp2_with fail
  refine (element_any w.heap.size 0 9 w1 R1.out (by omega) (by omega) (by omega)).mono ?_
  rintro e w2 ⟨u, hu, rfl, p2, hp2, r2, g2⟩
  have R2 := Lib.hid r2
  have B2 := Lib.hid (below_R B1.out g2)
  have HU := Lib.hid hu
  clear r2 g2 hu
  go_wp2_with fail
  refine (element_any w.heap.size p2 9 w2 R2.out (by omega) (by omega) (by omega)).mono ?_
  rintro e w3 ⟨v, hv, rfl, p3, _, _, g3⟩
  have HP : Hid (TwoEls w (.returned (.tuple #[.int .i64 u, .int .i64 v])) w3) := ⟨u, v, HU.out, hv, rfl, below_R B2.out g3⟩
  clear g3 hv
  go_wp2
  go_ret2
  exact HP.out
end Go.Proofs.Ytlaofbaglepkgaa
