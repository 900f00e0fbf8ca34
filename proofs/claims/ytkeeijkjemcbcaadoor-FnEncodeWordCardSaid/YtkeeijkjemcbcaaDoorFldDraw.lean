/-
  How the laws of the finite field draw elements and lists of them: what comes out, and what it leaves. Condition: the code has at most 2^20 bytes.
-/
import Derived.Test.YtkeeijkjemcbcaaDoorFldMath
import Derived.Test.YtkeeijkjemcbcaaDoorDraws
namespace Go.Proofs.YtkeeijkjemcbcaaDoor
open Go.RowKit

/-- What drawing an element leaves: an element, or one of its neighbours. -/
def ElPost (R p : Nat) (w : World) (e : Ending) (w' : World) : Prop :=
  ∃ v : Int, (-1 ≤ v ∧ v ≤ 16) ∧ e = .returned (.int .i64 v) ∧ ∃ p', p' ≤ p + 2 ∧ Rd w' R p' ∧ w.grownBy w' (some R)
theorem element_cell {w1 w3 : World} {k R : Nat} (g3 : (w1.alloc (.cells #[.int .i64 (-1), .int .i64 16] 3)).grownBy w3 (some R)) (hR : R < w1.heap.size) (hk : k < 2) :
    ∃ x : Int, (-1 ≤ x ∧ x ≤ 16) ∧ w3.cell? ⟨w1.heap.size, k, none⟩ = some (.int .i64 x) := by
  rw [cell_grown g3 rfl hR]
  match k, hk with
  | 0, _ => exact ⟨_, ⟨by decide, by decide⟩, rfl⟩
  | 1, _ => exact ⟨_, ⟨by decide, by decide⟩, rfl⟩
  | (m + 2), h => exact absurd h (by omega)
set_option maxHeartbeats 1000000 in
theorem element_any (R p : Nat) (n : Int) (w : World) (hr : Rd w R p) (hp : p ≤ 549755813888) (hn1 : 1 ≤ n) (hn2 : n ≤ 1000000) :
    Calls Tryd.prog 52 #[.pointer (some ⟨R, 0, none⟩), .int .i64 n] w (ElPost R p w) := by
  have HR0 := Lib.hid hr
  have hRw := hr.lt
  clear hr
  go_enter Tryd.func52, Tryd.ntmps52
  go_wp2_with fail
  refine (odd_any R p n w HR0.out (by omega) hn1 (by omega)).mono ?_
  rintro e w1 ⟨b1, rfl, r1, g1⟩
  have R1 := Lib.hid r1
  have G1 := Lib.hid g1
  have hs1 : w.heap.size ≤ w1.heap.size := g1.size
  clear r1 g1
  cases b1
  · go_wp2_with fail
    refine (pick_any R (p + 1) 16 w1 R1.out (by omega) (by omega) (by omega)).mono ?_
    rintro e w2 ⟨v2, ⟨hv2, hv2'⟩, rfl, r2, g2⟩
    have R2 := Lib.hid r2
    have G2 := Lib.hid (grown_trans G1.out g2)
    clear r2 g2
    go_wp2
    go_ret
    exact ⟨v2, ⟨by omega, by omega⟩, rfl, p + 1 + 1, by omega, R2.out, G2.out⟩
  · go_wp2_with fail
    refine (pick_any R (p + 1) 2 _ (R1.out.alloc _) (by omega) (by omega) (by omega)).mono ?_
    rintro e w3 ⟨v3, ⟨hv3, hv3'⟩, rfl, r3, g3⟩
    obtain ⟨k, rfl⟩ := Int.eq_ofNat_of_zero_le hv3
    have hk : k < 2 := by omega
    obtain ⟨x, hx, hc⟩ := element_cell g3 (by omega) hk
    have HX := Lib.hid hx
    have R3 := Lib.hid r3
    have G3 := Lib.hid (grown_trans (grown_alloc G1.out _) g3)
    clear r3 g3 hx hv3 hv3'
    go_wp2
    go_ret
    exact ⟨x, HX.out, rfl, p + 1 + 1, by omega, R3.out, G3.out⟩

/-- A drawn list of about n elements; only the reader was written besides. -/
def ElsPost (R p n : Nat) (w : World) (e : Ending) (w' : World) : Prop :=
  ∃ xs ad m cap p', e = .returned (.slice (some ad) m cap) ∧ m ≤ n + 1 ∧ Grow .i64 3 w' w.heap.size (some ad) m cap xs ∧ Rd w' R p' ∧ p' ≤ p + n + 8 ∧ w.grownBy w' (some R)
/-- The state of the loop that draws: m are drawn. -/
def ElsRel (R p : Nat) (w : World) (m : Nat) (v : Option Addr) (cap : Nat) (wr : World) : Prop :=
  ∃ xs ad p', v = some ad ∧ Grow .i64 3 wr w.heap.size v m cap xs ∧ Rd wr R p' ∧ p' ≤ p + m ∧ w.grownBy wr (some R)
set_option maxHeartbeats 2000000 in
theorem elements_any (R p n : Nat) (bad : Int) (w : World) (hr : Rd w R p) (hp : p ≤ 274877906944) (hn : n ≤ 2000) (hbad : bad = 0 ∨ (1 ≤ bad ∧ bad ≤ 1000)) :
    Calls Tryd.prog 32 #[.pointer (some ⟨R, 0, none⟩), .int .i64 n, .int .i64 bad] w (ElsPost R p n w) := by
  have HR0 := Lib.hid hr
  have hRw := hr.lt
  have HBad := Lib.hid hbad
  clear hr hbad
  go_enter Tryd.func32, Tryd.ntmps32
  go_wp2
  go_loopw [7, 8] (fun s i wr => ∃ (m : Nat) (v : Option Addr) (cap : Nat), m ≤ n ∧ i = .int .i64 m ∧ s = .slice v m cap ∧ ElsRel R p w m v cap wr) (fun _ i _ => n - (intOf i).toNat)
  case atStart => exact ⟨0, _, _, Nat.zero_le _, rfl, rfl, [], _, p, rfl, Grow.lit0 _ _ _ _ (Nat.le_refl _), HR0.out.alloc _, by omega, grown_alloc (World.grownBy.refl w (some R)) _⟩
  case round =>
    obtain ⟨m, v, cap, hm, rfl, rfl, xs, ad, p', rfl, hgr, hrd, hp', hgn⟩ := hrel
    have HG := Lib.hid hgr
    have HR := Lib.hid hrd
    have HN := Lib.hid hgn
    have hsz : w.heap.size ≤ wr.heap.size := hgn.size
    clear hgr hrd hgn
    by_cases hlt : m < n
    · go_wp2_with fail
      refine (pick_any R p' 16 wr HR.out (by omega) (by omega) (by omega)).mono ?_
      rintro e w2 ⟨x, ⟨hx0, hx1⟩, rfl, r2, g2⟩
      have R2 := Lib.hid r2
      have N2 := Lib.hid (grown_trans HN.out g2)
      have L2 := Lib.hid (HG.out.grownR g2 hRw)
      have hsz2 : w.heap.size ≤ w2.heap.size := by have := g2.size; omega
      clear r2 g2
      go_wp2_with (at_builtin; refine wpList_append1 (.tmp 15) (.tmp 18) w.heap.size (some ad) m cap xs ⟨w2.heap.size, 0, none⟩ x rfl rfl rfl rfl (L2.out.alloc _) (by simp) (by omega) (by simp; omega) ?_; intro a3 cap3 w3 hg3 hb3; have HG3 := Lib.hid hg3; have HB3 := Lib.hid hb3; clear hg3 hb3)
      go_roundw
      case rel =>
        obtain ⟨ad3, rfl⟩ := HG3.out.addr
        exact ⟨m + 1, some ad3, cap3, by omega, by go_num, rfl, _, ad3, p' + 1, rfl, HG3.out, (R2.out.alloc _).below HB3.out hRw, by omega, grown_below (grown_alloc N2.out _) HB3.out (Nat.le_refl _)⟩
      case measure => simp [intOf]; omega
    · obtain rfl : n = m := by omega
      by_cases h0 : 0 < n
      · rcases HBad.out with rfl | ⟨hb1, hb2⟩
        · go_wp2_with fail
          refine (oddZ_any R wr).mono ?_
          rintro e w' ⟨rfl, rfl⟩
          go_wp2
          go_ret
          exact ⟨xs, ad, n, cap, p', rfl, by omega, HG.out, HR.out, by omega, HN.out⟩
        · go_wp2_with fail
          refine (odd_any R p' bad wr HR.out (by omega) (by omega) (by omega)).mono ?_
          rintro e w4 ⟨b4, rfl, r4, g4⟩
          have R4 := Lib.hid r4
          have N4 := Lib.hid (grown_trans HN.out g4)
          have L4 := Lib.hid (HG.out.grownR g4 hRw)
          have hsz4 : w.heap.size ≤ w4.heap.size := by have := g4.size; omega
          clear r4 g4
          cases b4
          · go_wp2
            go_ret
            exact ⟨xs, ad, n, cap, p' + 1, rfl, by omega, L4.out, R4.out, by omega, N4.out⟩
          · go_wp2_with fail
            refine (pick_any R (p' + 1) 2 w4 R4.out (by omega) (by omega) (by omega)).mono ?_
            rintro e w5 ⟨v5, ⟨hv5, hv5'⟩, rfl, r5, g5⟩
            have R5 := Lib.hid r5
            have N5 := Lib.hid (grown_trans N4.out g5)
            have L5 := Lib.hid (L4.out.grownR g5 hRw)
            have hsz5 : w.heap.size ≤ w5.heap.size := by have := g5.size; omega
            clear r5 g5
            by_cases hz : v5 = 0
            · subst hz
              go_wp2_with fail
              refine (pick_any R (p' + 1 + 1) (n : Int) w5 R5.out (by omega) (by omega) (by omega)).mono ?_
              rintro e w6 ⟨v6, ⟨hv6, hv6'⟩, rfl, r6, g6⟩
              have R6 := Lib.hid r6
              have N6 := Lib.hid (grown_trans N5.out g6)
              have L6 := Lib.hid (L5.out.grownR g6 hRw)
              clear r6 g6
              go_wp2_with fail
              refine (element_any R (p' + 1 + 1 + 1) 1 w6 R6.out (by omega) (by omega) (by omega)).mono ?_
              rintro e w7 ⟨v7, _, rfl, p7, hp7, r7, g7⟩
              have R7 := Lib.hid r7
              have N7 := Lib.hid (grown_trans N6.out g7)
              have L7 := Lib.hid (L6.out.grownR g7 hRw)
              clear r7 g7
              obtain ⟨i, rfl⟩ := Int.eq_ofNat_of_zero_le hv6
              have hi : i < n := by omega
              obtain ⟨b, hb1', hb2'⟩ := L7.out.addr0 (by simp)
              obtain rfl : ad = ⟨b, 0, none⟩ := by injection hb1'
              obtain ⟨⟨u, hc⟩, hf⟩ := grow_cell L7.out hi
              have L8 := Lib.hid (L7.out.set i v7)
              have B8 := Lib.hid ((Below.refl w.heap.size w7).setCell (p := ⟨b, i, none⟩) hb2' (.int .i64 v7))
              clear hb1'
              go_wp2
              go_ret
              exact ⟨_, _, n, cap, p7, rfl, by omega, L8.out, R7.out.below B8.out hRw, by omega, grown_below N7.out B8.out (Nat.le_refl _)⟩
            · obtain rfl : v5 = 1 := by omega
              go_wp2_with (at_builtin; refine wpList_append1 (.tmp 39) (.tmp 40) w.heap.size (some ad) n cap xs ⟨w5.heap.size, 0, none⟩ 0 rfl rfl rfl rfl (L5.out.alloc _) (by simp) (by omega) (by simp; omega) ?_; intro a3 cap3 w6 hg3 hb3; have HG3 := Lib.hid hg3; have HB3 := Lib.hid hb3; clear hg3 hb3)
              go_ret
              obtain ⟨ad3, rfl⟩ := HG3.out.addr
              exact ⟨_, ad3, n + 1, cap3, p' + 1 + 1, rfl, by omega, HG3.out, (R5.out.alloc _).below HB3.out hRw, by omega, grown_below (grown_alloc N5.out _) HB3.out (Nat.le_refl _)⟩
      · obtain rfl : n = 0 := by omega
        go_wp2
        go_ret
        exact ⟨xs, ad, 0, cap, p', rfl, by omega, HG.out, HR.out, by omega, HN.out⟩

/-- Two drawn elements. -/
def TwoEls (w : World) (e : Ending) (w' : World) : Prop :=
  ∃ a b : Int, (-1 ≤ a ∧ a ≤ 16) ∧ (-1 ≤ b ∧ b ≤ 16) ∧ e = .returned (.tuple #[.int .i64 a, .int .i64 b]) ∧ Below w.heap.size w w'
def OneEl (w : World) (e : Ending) (w' : World) : Prop :=
  ∃ a : Int, (-1 ≤ a ∧ a ≤ 16) ∧ e = .returned (.int .i64 a) ∧ Below w.heap.size w w'
/-- A drawn list and a drawn element. -/
def ListEl (w : World) (e : Ending) (w' : World) : Prop :=
  ∃ xs a c x, e = .returned (.tuple #[.slice a xs.length c, .int .i64 x]) ∧ (xs.length ≤ 20 ∧ xs.length ≤ c ∧ c ≤ maxLen) ∧ (-1 ≤ x ∧ x ≤ 16) ∧ Ints .i64 w' w'.heap.size a xs ∧ Below w.heap.size w w'
end Go.Proofs.YtkeeijkjemcbcaaDoor
