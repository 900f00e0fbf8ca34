/-
  DrawStopAndWait, DrawGoBack and DrawSelectRepeat, walked. Condition: bytes that can be read.
-/
import Derived.Test.YtenihedpbklmlaaRpDrawG
namespace Go.Proofs.Ytenihedpbklmlaa
open Go.RowKit

set_option maxRecDepth 10000 in
set_option maxHeartbeats 1000000 in
theorem drawGoBack_any (a : Option Addr) (c : Nat) (ds : List Int) (w : World) (hx : Ints .u8 w w.heap.size a ds) (hw : ∀ n ∈ ds, isByte n) (hc : ds.length ≤ c) (hcm : c ≤ maxLen) :
    Calls Try.prog 25 #[.slice a ds.length c] w (DrawGoP w) := by
  have hl : ds.length ≤ maxLen := Nat.le_trans hc hcm
  go_enter Try.func25, Try.ntmps25
  go_wp2_with fail
  refine (open_any a c ds w hx hw hc hl hcm).mono ?_
  rintro e w1 ⟨rfl, r1, b1⟩
  have R1 := Lib.hid r1
  have B1 := Lib.hid b1
  clear hx hw hc hcm hl r1 b1
  go_wp2_with fail
  refine (l20Go_any w.heap.size 0 w1 R1.out (by omega)).mono ?_
  rintro e w2 ⟨n, v, ls, a2, c2, rfl, h2, bl2, g2⟩
  have HE := Lib.hid (show DrawGoP w (.returned (.tuple #[.int .i64 n, .int .i64 v, .slice a2 ls.length c2])) w2 from ⟨n, v, ls, a2, c2, rfl, h2, bl2, below_R B1.out g2⟩)
  clear h2 bl2 g2
  go_wp2
  go_ret3
  exact HE.out
set_option maxRecDepth 10000 in
set_option maxHeartbeats 1000000 in
theorem drawSelectRepeat_any (a : Option Addr) (c : Nat) (ds : List Int) (w : World) (hx : Ints .u8 w w.heap.size a ds) (hw : ∀ n ∈ ds, isByte n) (hc : ds.length ≤ c) (hcm : c ≤ maxLen) :
    Calls Try.prog 28 #[.slice a ds.length c] w (DrawGoP w) := by
  have hl : ds.length ≤ maxLen := Nat.le_trans hc hcm
  go_enter Try.func28, Try.ntmps28
  go_wp2_with fail
  refine (open_any a c ds w hx hw hc hl hcm).mono ?_
  rintro e w1 ⟨rfl, r1, b1⟩
  have R1 := Lib.hid r1
  have B1 := Lib.hid b1
  clear hx hw hc hcm hl r1 b1
  go_wp2_with fail
  refine (l20Go_any w.heap.size 0 w1 R1.out (by omega)).mono ?_
  rintro e w2 ⟨n, v, ls, a2, c2, rfl, h2, bl2, g2⟩
  have HE := Lib.hid (show DrawGoP w (.returned (.tuple #[.int .i64 n, .int .i64 v, .slice a2 ls.length c2])) w2 from ⟨n, v, ls, a2, c2, rfl, h2, bl2, below_R B1.out g2⟩)
  clear h2 bl2 g2
  go_wp2
  go_ret3
  exact HE.out
theorem bls_grown {w w' : World} {R : Nat} {a : Option Addr} {ls : List Bool} (h : Bls w w.heap.size a ls) (hg : w.grownBy w' (some R)) (hne : ∀ b off, a = some ⟨b, off, none⟩ → b ≠ R) : Bls w' w'.heap.size a ls := fun hn => by
  obtain ⟨b, off, e, hb, hc⟩ := h hn
  exact ⟨b, off, e, Nat.lt_of_lt_of_le hb hg.size, fun i hi => (World.cell?_of_block (hg.block b hb (fun e2 => by injection e2 with e2; exact hne b off e e2))).trans (hc i hi)⟩
theorem bls_not_rd {w : World} {R p : Nat} {a : Option Addr} {ls : List Bool} (h : Bls w w.heap.size a ls) (hr : Rd w R p) (hn : ls ≠ []) : ∀ b off, a = some ⟨b, off, none⟩ → b ≠ R := fun b off e e2 => by
  obtain ⟨b', off', e', _, hc⟩ := h hn
  rw [e] at e'
  injection e' with e'
  injection e' with e1 e3
  subst e1 e3
  obtain ⟨ba, bn, bc, ds, h1, _⟩ := hr
  have h2 := hc 0 (List.length_pos_iff.2 hn)
  rw [e2] at h2
  simp only [World.cell?, h1] at h2
  generalize off + 0 = j at h2
  match j, h2 with
  | 0, h2 => simp at h2
  | 1, h2 => simp at h2
  | k + 2, h2 => simp at h2
theorem bls_pair {w w' : World} {R p : Nat} {a : Option Addr} {ls : List Bool} (h : Bls w w.heap.size a ls) (hr : Rd w R p) (hg : w.grownBy w' (some R)) : Bls w' w'.heap.size a ls := by
  by_cases hn : ls = []
  · subst hn; exact Bls.nil
  · exact bls_grown h hg (bls_not_rd h hr hn)
set_option maxRecDepth 10000 in
set_option maxHeartbeats 2000000 in
theorem drawStopAndWait_any (a : Option Addr) (c : Nat) (ds : List Int) (w : World) (hx : Ints .u8 w w.heap.size a ds) (hw : ∀ n ∈ ds, isByte n) (hc : ds.length ≤ c) (hcm : c ≤ maxLen) :
    Calls Try.prog 22 #[.slice a ds.length c] w (DrawStP w) := by
  have hl : ds.length ≤ maxLen := Nat.le_trans hc hcm
  go_enter Try.func22, Try.ntmps22
  go_wp2_with fail
  refine (open_any a c ds w hx hw hc hl hcm).mono ?_
  rintro e w1 ⟨rfl, r1, b1⟩
  have R1 := Lib.hid r1
  have B1 := Lib.hid b1
  clear hx hw hc hcm hl r1 b1
  go_wp2_with fail
  refine (pick_any w.heap.size 0 12 w1 R1.out (by omega) (by omega) (by omega)).mono ?_
  rintro e w2 ⟨a1, ha1, rfl, r2, g2⟩
  have R2 := Lib.hid r2
  have G2 := Lib.hid g2
  clear r2 g2 R1
  go_wp2_with fail
  refine (pick_any w.heap.size (0 + 1) 14 w2 R2.out (by omega) (by omega) (by omega)).mono ?_
  rintro e w3 ⟨a2, ha2, rfl, r3, g3⟩
  have R3 := Lib.hid r3
  have G3 := Lib.hid (grown_trans G2.out g3)
  clear r3 g3 R2 G2
  obtain ⟨q2, e2, hq2, i2, j2⟩ := thirteen ha2
  have i3 := wrapW (n := q2 * 30) (by omega)
  have j3 := wrapW' (n := q2 * 30) (by omega)
  have i4 := wrapW (n := a1 + q2 * 30) (by omega)
  have j4 := wrapW' (n := a1 + q2 * 30) (by omega)
  go_wp2_with fail
  clear i2 j2 i3 j3 i4 j4 e2 hq2 ha1 ha2
  generalize a1 + q2 * 30 = n
  refine (l20Lost_any w.heap.size (0 + 1 + 1) w3 R3.out (by omega)).mono ?_
  rintro e w4 ⟨ls, al, cl, p4, rfl, hl4, bl4, r4, hp4, g4⟩
  have R4 := Lib.hid r4
  have G4 := Lib.hid (grown_trans G3.out g4)
  have L4 := Lib.hid bl4
  have HL4 := Lib.hid hl4
  clear r4 g4 bl4 hl4 R3 G3
  go_wp2_with fail
  refine (l20Lost_any w.heap.size p4 w4 R4.out (by omega)).mono ?_
  rintro e w5 ⟨us, au, cu, p5, rfl, hl5, bl5, r5, _, g5⟩
  have HE := Lib.hid (show DrawStP w (.returned (.tuple #[.int .i64 n, .slice al ls.length cl, .slice au us.length cu])) w5 from ⟨n, ls, al, cl, us, au, cu, rfl, HL4.out, hl5, bls_pair L4.out R4.out g5, bl5, below_R B1.out (grown_trans G4.out g5)⟩)
  clear r5 g5 bl5 hl5
  go_wp2
  go_ret3
  exact HE.out
end Go.Proofs.Ytenihedpbklmlaa
