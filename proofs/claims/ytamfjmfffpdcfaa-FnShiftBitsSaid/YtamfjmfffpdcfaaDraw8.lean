/-
  How the laws of chapter 2 draw generator polynomials and lists of bits: what comes out, and what it leaves. Condition: fewer than 2^39 numbers were picked before.
-/
import Derived.Test.YtamfjmfffpdcfaaDraw4
namespace Go.Proofs.Ytamfjmfffpdcfaa
open Go.RowKit

theorem oddZ_any (R : Nat) (w : World) : Calls Try.prog 54 #[.pointer (some ⟨R, 0, none⟩), .int .i64 0] w fun e w' => e = .returned (.bool false) ∧ w = w' := by
  go_enter Try.func54, Try.ntmps54
  go_wp2
  go_ret
  exact ⟨rfl, rfl⟩
set_option maxHeartbeats 2000000 in
theorem bitsZ_any (R p most : Nat) (w : World) (hr : Rd w R p) (hp : p ≤ 549755813888) (hm : most ≤ 2000) :
    Calls Try.prog 44 #[.pointer (some ⟨R, 0, none⟩), .int .i64 most, .int .i64 0] w (BitsPost R p most w) := by
  have HR0 := Lib.hid hr
  have hRw := hr.lt
  clear hr
  go_enter Try.func44, Try.ntmps44
  go_wp2_with fail
  refine (pick_any R p 4 _ (HR0.out.alloc _) (by omega) (by omega) (by omega)).mono ?_
  rintro e w1 ⟨v1, ⟨hv1, hv1'⟩, rfl, r1, g1⟩
  have R1 := Lib.hid r1
  have G1 := Lib.hid (grown_trans (grown_alloc (World.grownBy.refl w (some R)) _) g1)
  have L1 := Lib.hid ((Grow.lit0 .i64 3 w w.heap.size (Nat.le_refl _)).grownR g1 hRw)
  clear r1 g1
  go_wp2_with fail
  refine (pick_any R (p + 1) 2 w1 R1.out (by omega) (by omega) (by omega)).mono ?_
  rintro e w2 ⟨v2, ⟨hv2, hv2'⟩, rfl, r2, g2⟩
  have R2 := Lib.hid r2
  have G2 := Lib.hid (grown_trans G1.out g2)
  have L2 := Lib.hid (L1.out.grownR g2 hRw)
  clear r2 g2 R1 G1 L1
  go_wp2_with fail
  refine (pick_any R (p + 1 + 1) ((most : Int) + 1) w2 R2.out (by omega) (by omega) (by omega)).mono ?_
  rintro e w3 ⟨v3, ⟨hv3, hv3'⟩, rfl, r3, g3⟩
  have R3 := Lib.hid r3
  have G3 := Lib.hid (grown_trans G2.out g3)
  have L3 := Lib.hid (L2.out.grownR g3 hRw)
  clear r3 g3 R2 G2 L2
  obtain ⟨q0, rfl⟩ : ∃ q0 : Nat, v3 = (q0 : Int) := ⟨v3.toNat, by omega⟩
  obtain ⟨st, hst⟩ : ∃ st : Int, st = 1 + v1 := ⟨_, rfl⟩
  go_wp2
  go_loopw [7, 9, 10] (fun s nw i wr => ∃ (q m : Nat) (v : Option Addr) (cap : Nat) (x : Int), i = .int .i64 q ∧ nw = .int .i64 x ∧ (0 ≤ x ∧ x < 2) ∧ s = .slice v m cap ∧ BitsRel R p most w q m v cap wr) (fun _ _ i _ => (intOf i).toNat)
  case atStart => exact ⟨q0, 0, _, _, v2, rfl, rfl, ⟨hv2, hv2'⟩, rfl, [], _, p + 1 + 1 + 1, rfl, by omega, by simp, L3.out, R3.out, by omega, G3.out⟩
  case round =>
    obtain ⟨q, m, v, cap, x, rfl, rfl, ⟨hx0, hx1⟩, rfl, xs, ad, p', rfl, hqm, hsm, hgr, hrd, hp', hgn⟩ := hrel
    have HG := Lib.hid hgr
    have HS := Lib.hid hsm
    have HR := Lib.hid hrd
    have HN := Lib.hid hgn
    have hsz : w.heap.size ≤ wr.heap.size := hgn.size
    clear hgr hsm hrd hgn R3 G3 L3
    by_cases hq : 0 < q
    · go_wp2_with fail
      refine (pick_any R p' (1 + v1) wr HR.out (by omega) (by omega) (by omega)).mono ?_
      rintro e w4 ⟨v4, ⟨hv4, hv4'⟩, rfl, r4, g4⟩
      have R4 := Lib.hid r4
      have N4 := Lib.hid (grown_trans HN.out g4)
      have L4 := Lib.hid (HG.out.grownR g4 hRw)
      have hsz4 : w.heap.size ≤ w4.heap.size := by have := g4.size; omega
      clear r4 g4
      by_cases hz : v4 = 0
      · have hzb : (v4 == 0) = true := by simp [hz]
        clear hz
        go_wp2_with fail
        refine (pick_any R (p' + 1) 2 w4 R4.out (by omega) (by omega) (by omega)).mono ?_
        rintro e w5 ⟨v5, ⟨hv5, hv5'⟩, rfl, r5, g5⟩
        have R5 := Lib.hid r5
        have N5 := Lib.hid (grown_trans N4.out g5)
        have L5 := Lib.hid (L4.out.grownR g5 hRw)
        have hsz5 : w.heap.size ≤ w5.heap.size := by have := g5.size; omega
        clear r5 g5
        go_wp2_with (at_builtin; refine wpList_append1 (.tmp 31) (.tmp 33) w.heap.size (some ad) m cap xs ⟨w5.heap.size, 0, none⟩ v5 rfl rfl rfl rfl (L5.out.alloc _) (by simp) (by omega) (by simp; omega) ?_; intro a2 cap2 w6 hg2 hb2; have HG2 := Lib.hid hg2; have HB2 := Lib.hid hb2; clear hg2 hb2)
        go_roundw
        case rel => exact ⟨q - 1, m + 1, a2, cap2, v5, by go_num, rfl, ⟨hv5, hv5'⟩, rfl, bitsRel_step hq hqm HS.out ⟨hv5, hv5'⟩ R5.out (by omega) N5.out hRw HG2.out HB2.out⟩
        case measure => simp [intOf]; omega
      · have hzb : (v4 == 0) = false := by simp [hz]
        clear hz
        go_wp2_with (at_builtin; refine wpList_append1 (.tmp 31) (.tmp 33) w.heap.size (some ad) m cap xs ⟨w4.heap.size, 0, none⟩ x rfl rfl rfl rfl (L4.out.alloc _) (by simp) (by omega) (by simp; omega) ?_; intro a2 cap2 w6 hg2 hb2; have HG2 := Lib.hid hg2; have HB2 := Lib.hid hb2; clear hg2 hb2)
        go_roundw
        case rel => exact ⟨q - 1, m + 1, a2, cap2, x, by go_num, rfl, ⟨hx0, hx1⟩, rfl, bitsRel_step hq hqm HS.out ⟨hx0, hx1⟩ R4.out (by omega) N4.out hRw HG2.out HB2.out⟩
        case measure => simp [intOf]; omega
    · go_wp2_with fail
      refine (oddZ_any R wr).mono ?_
      rintro e w' ⟨rfl, rfl⟩
      go_wp2
      go_ret
      exact ⟨xs, ad, m, cap, p', rfl, by omega, HS.out, HG.out, HR.out, by omega, HN.out⟩

/-- What drawing a generator polynomial leaves. -/
def GenPost (R p : Nat) (w : World) (e : Ending) (w' : World) : Prop :=
  ∃ g : Int, (-10 ≤ g ∧ g ≤ 131073) ∧ e = .returned (.int .i64 g) ∧ ∃ p', p' ≤ p + 3 ∧ Rd w' R p' ∧ w.grownBy w' (some R)
theorem cell_grown {w w' : World} {b R i : Nat} {cs : Array Value} {t : TypeId} (hg : (w.alloc (.cells cs t)).grownBy w' (some R)) (hb : b = w.heap.size) (hR : R < w.heap.size) : w'.cell? ⟨b, i, none⟩ = cs[i]? := by
  subst hb
  rw [World.cell?_of_block (hg.block w.heap.size (by simp) (fun e => by injection e; omega)), cell_of_row _ _ _ _ _ _ (heap_alloc_last w _)]
set_option maxHeartbeats 1000000 in
theorem generator_any (R p : Nat) (n : Int) (w : World) (hr : Rd w R p) (hp : p ≤ 549755813888) (hn1 : 1 ≤ n) (hn2 : n ≤ 1000000) :
    Calls Try.prog 51 #[.pointer (some ⟨R, 0, none⟩), .int .i64 n] w (GenPost R p w) := by
  have HR0 := Lib.hid hr
  have hRw := hr.lt
  clear hr
  go_enter Try.func51, Try.ntmps51
  go_wp2_with fail
  refine (odd_any R p n w HR0.out (by omega) hn1 (by omega)).mono ?_
  rintro e w1 ⟨b1, rfl, r1, g1⟩
  have R1 := Lib.hid r1
  have G1 := Lib.hid g1
  have hs1 : w.heap.size ≤ w1.heap.size := g1.size
  clear r1 g1
  cases b1
  · go_wp2_with fail
    refine (pick_any R (p + 1) 256 w1 R1.out (by omega) (by omega) (by omega)).mono ?_
    rintro e w2 ⟨v2, ⟨hv2, hv2'⟩, rfl, r2, g2⟩
    have R2 := Lib.hid r2
    have G2 := Lib.hid (grown_trans G1.out g2)
    have hs2 : w.heap.size ≤ w2.heap.size := by have := g2.size; omega
    clear r2 g2
    go_wp2_with fail
    refine (pick_any R (p + 1 + 1) 10 _ (R2.out.alloc _) (by omega) (by omega) (by omega)).mono ?_
    rintro e w3 ⟨v3, ⟨hv3, hv3'⟩, rfl, r3, g3⟩
    obtain ⟨k, rfl⟩ := Int.eq_ofNat_of_zero_le hv3
    have hk : k < 10 := by omega
    have hcell : ∃ x : Int, (-10 ≤ x ∧ x ≤ 131073) ∧ w3.cell? ⟨w2.heap.size, k, none⟩ = some (.int .i64 x) := by
      rw [cell_grown g3 rfl (by omega)]
      match k, hk with
      | 0, _ => exact ⟨_, ⟨by decide, by decide⟩, rfl⟩
      | 1, _ => exact ⟨_, ⟨by decide, by decide⟩, rfl⟩
      | 2, _ => exact ⟨_, ⟨by decide, by decide⟩, rfl⟩
      | 3, _ => exact ⟨_, ⟨by decide, by decide⟩, rfl⟩
      | 4, _ => exact ⟨_, ⟨by decide, by decide⟩, rfl⟩
      | 5, _ => exact ⟨_, ⟨by decide, by decide⟩, rfl⟩
      | 6, _ => exact ⟨_, ⟨by decide, by decide⟩, rfl⟩
      | 7, _ => exact ⟨_, ⟨by decide, by decide⟩, rfl⟩
      | 8, _ => exact ⟨_, ⟨by decide, by decide⟩, rfl⟩
      | 9, _ => exact ⟨_, ⟨by omega, by omega⟩, rfl⟩
      | (m + 10), h => exact absurd h (by omega)
    obtain ⟨x, hx, hc⟩ := hcell
    have HX := Lib.hid hx
    have R3 := Lib.hid r3
    have G3 := Lib.hid (grown_trans (grown_alloc G2.out _) g3)
    clear r3 g3 hx hv3 hv3'
    go_wp2
    go_ret
    exact ⟨x, HX.out, rfl, p + 1 + 1 + 1, by omega, R3.out, G3.out⟩
  · go_wp2_with fail
    refine (pick_any R (p + 1) 6 _ (R1.out.alloc _) (by omega) (by omega) (by omega)).mono ?_
    rintro e w3 ⟨v3, ⟨hv3, hv3'⟩, rfl, r3, g3⟩
    obtain ⟨k, rfl⟩ := Int.eq_ofNat_of_zero_le hv3
    have hk : k < 6 := by omega
    have hcell : ∃ x : Int, (-10 ≤ x ∧ x ≤ 131073) ∧ w3.cell? ⟨w1.heap.size, k, none⟩ = some (.int .i64 x) := by
      rw [cell_grown g3 rfl (by omega)]
      match k, hk with
      | 0, _ => exact ⟨_, ⟨by decide, by decide⟩, rfl⟩
      | 1, _ => exact ⟨_, ⟨by decide, by decide⟩, rfl⟩
      | 2, _ => exact ⟨_, ⟨by decide, by decide⟩, rfl⟩
      | 3, _ => exact ⟨_, ⟨by decide, by decide⟩, rfl⟩
      | 4, _ => exact ⟨_, ⟨by decide, by decide⟩, rfl⟩
      | 5, _ => exact ⟨_, ⟨by decide, by decide⟩, rfl⟩
      | (m + 6), h => exact absurd h (by omega)
    obtain ⟨x, hx, hc⟩ := hcell
    have HX := Lib.hid hx
    have R3 := Lib.hid r3
    have G3 := Lib.hid (grown_trans (grown_alloc G1.out _) g3)
    clear r3 g3 hx hv3 hv3'
    go_wp2
    go_ret
    exact ⟨x, HX.out, rfl, p + 1 + 1, by omega, R3.out, G3.out⟩
/-- A drawn number. -/
def NumPost (w : World) (e : Ending) (w' : World) : Prop :=
  ∃ g : Int, (-1000000 ≤ g ∧ g ≤ 1000000) ∧ e = .returned (.int .i64 g) ∧ Below w.heap.size w w'
theorem below_R {w w1 w2 : World} (h : Below w.heap.size w w1) (g : w1.grownBy w2 (some w.heap.size)) : Below w.heap.size w w2 := h.grown g h.size (fun k e => by injection e; omega)
end Go.Proofs.Ytamfjmfffpdcfaa
