/-
  How the laws draw bytes. Condition: fewer than 2^39 numbers were picked before.
-/
import Derived.Test.YtnedhpodfjlnmaaLaw2
namespace Go.Proofs.Ytnedhpodfjlnmaa
open Go.RowKit

/-- Drawn bytes: in memory of their own; only the reader was written besides. -/
def BytesDrawn (R p most : Nat) (w : World) (e : Ending) (w' : World) : Prop :=
  ∃ ds ad n cap p', e = .returned (.slice (some ad) n cap) ∧ n ≤ most ∧ (∀ x ∈ ds, isByte x) ∧ Grow .u8 5 w' w.heap.size (some ad) n cap ds ∧ Rd w' R p' ∧ p' ≤ p + 1 + 3 * most ∧ w.grownBy w' (some R)
def BytesRel (R p most : Nat) (w : World) (q m : Nat) (v : Option Addr) (cap : Nat) (wr : World) : Prop :=
  ∃ ds ad p', v = some ad ∧ q + m ≤ most ∧ (∀ x ∈ ds, isByte x) ∧ Grow .u8 5 wr w.heap.size v m cap ds ∧ Rd wr R p' ∧ p' ≤ p + 1 + 3 * m ∧ w.grownBy wr (some R)
theorem byte_snoc {xs : List Int} {x : Int} (h : ∀ y ∈ xs, isByte y) (hx : isByte x) : ∀ y ∈ xs ++ [x], isByte y := fun y hy => by
  rcases List.mem_append.1 hy with hy | hy
  · exact h y hy
  · simp at hy; subst hy; exact hx
theorem bytesRel_step {R p most : Nat} {w W w' : World} {q m cap' p' : Nat} {ds : List Int} {x : Int} {a' : Option Addr} {o : Obj} (hq : 0 < q) (h1 : q + m ≤ most) (h2 : ∀ x ∈ ds, isByte x) (hx : isByte x)
    (hr : Rd W R p') (hp : p' ≤ p + 1 + 3 * (m + 1)) (hg : w.grownBy W (some R)) (hR : R < w.heap.size)
    (hgr : Grow .u8 5 w' w.heap.size a' (m + 1) cap' (ds ++ [x])) (hb : Below w.heap.size (W.alloc o) w') : BytesRel R p most w (q - 1) (m + 1) a' cap' w' := by
  obtain ⟨ad, e⟩ := hgr.addr
  exact ⟨_, ad, p', e, by omega, byte_snoc h2 hx, hgr, (hr.alloc o).below hb hR, hp, grown_below (grown_alloc hg o) hb (Nat.le_refl _)⟩

set_option maxHeartbeats 2000000 in
theorem bytesDraw_any (R p most : Nat) (w : World) (hr : Rd w R p) (hp : p ≤ 549755813888) (hm : most ≤ 2000) :
    Calls Try.prog 46 #[.pointer (some ⟨R, 0, none⟩), .int .i64 most] w (BytesDrawn R p most w) := by
  have HR0 := Lib.hid hr
  have hRw := hr.lt
  clear hr
  go_enter Try.func46, Try.ntmps46
  go_wp2_with fail
  refine (pick_any R p ((most : Int) + 1) _ (HR0.out.alloc _) (by omega) (by omega) (by omega)).mono ?_
  rintro e w1 ⟨v1, ⟨hv1, hv1'⟩, rfl, r1, g1⟩
  have R1 := Lib.hid r1
  have G1 := Lib.hid (grown_trans (grown_alloc (World.grownBy.refl w (some R)) _) g1)
  have L1 := Lib.hid ((Grow.lit0 .u8 5 w w.heap.size (Nat.le_refl _)).grownR g1 hRw)
  clear r1 g1
  obtain ⟨q0, rfl⟩ : ∃ q0 : Nat, v1 = (q0 : Int) := ⟨v1.toNat, by omega⟩
  go_wp2
  go_loopw [5, 6] (fun s i wr => ∃ (q m : Nat) (v : Option Addr) (cap : Nat), i = .int .i64 q ∧ s = .slice v m cap ∧ BytesRel R p most w q m v cap wr) (fun _ i _ => (intOf i).toNat)
  case atStart => exact ⟨q0, 0, _, _, rfl, rfl, [], _, p + 1, rfl, by omega, by simp, L1.out, R1.out, by omega, G1.out⟩
  case round =>
    obtain ⟨q, m, v, cap, rfl, rfl, ds, ad, p', rfl, hqm, hsm, hgr, hrd, hp', hgn⟩ := hrel
    have HG := Lib.hid hgr
    have HS := Lib.hid hsm
    have HR := Lib.hid hrd
    have HN := Lib.hid hgn
    have hsz : w.heap.size ≤ wr.heap.size := hgn.size
    clear hgr hsm hrd hgn R1 G1 L1
    by_cases hq : 0 < q
    · go_wp2_with fail
      refine (pick_any R p' 256 wr HR.out (by omega) (by omega) (by omega)).mono ?_
      rintro e w4 ⟨v4, ⟨hv4, hv4'⟩, rfl, r4, g4⟩
      have R4 := Lib.hid r4
      have N4 := Lib.hid (grown_trans HN.out g4)
      have L4 := Lib.hid (HG.out.grownR g4 hRw)
      have hsz4 : w.heap.size ≤ w4.heap.size := by have := g4.size; omega
      clear r4 g4
      go_wp2_with fail
      refine (pick_any R (p' + 1) 256 w4 R4.out (by omega) (by omega) (by omega)).mono ?_
      rintro e w5 ⟨v5, ⟨hv5, hv5'⟩, rfl, r5, g5⟩
      have R5 := Lib.hid r5
      have N5 := Lib.hid (grown_trans N4.out g5)
      have L5 := Lib.hid (L4.out.grownR g5 hRw)
      have hsz5 : w.heap.size ≤ w5.heap.size := by have := g5.size; omega
      clear r5 g5 R4 N4 L4
      go_wp2_with fail
      refine (pick_any R (p' + 1 + 1) 5 _ (R5.out.alloc _) (by omega) (by omega) (by omega)).mono ?_
      rintro e w6 ⟨v6, ⟨hv6, hv6'⟩, rfl, r6, g6⟩
      have R6 := Lib.hid r6
      have N6 := Lib.hid (grown_trans (grown_alloc N5.out _) g6)
      have L6 := Lib.hid ((L5.out.alloc _).grownR g6 hRw)
      have hsz6 : w.heap.size ≤ w6.heap.size := by have := g6.size; simp at this; omega
      have hcell : ∀ i : Nat, w6.cell? ⟨w5.heap.size, i, none⟩ = (#[Value.int .i64 0, .int .i64 255, .int .i64 126, .int .i64 v4, .int .i64 v5] : Array Value)[i]? := fun i =>
        (World.cell?_of_block (g6.block _ (by simp) (fun e => by simp at e; omega))).trans (cell_of_row _ _ _ _ _ _ (heap_alloc_last _ _))
      have c0 : w6.cell? ⟨w5.heap.size, 0, none⟩ = some (.int .i64 0) := hcell 0
      have c1 : w6.cell? ⟨w5.heap.size, 1, none⟩ = some (.int .i64 255) := hcell 1
      have c2 : w6.cell? ⟨w5.heap.size, 2, none⟩ = some (.int .i64 126) := hcell 2
      have c3 : w6.cell? ⟨w5.heap.size, 3, none⟩ = some (.int .i64 v4) := hcell 3
      have c4 : w6.cell? ⟨w5.heap.size, 4, none⟩ = some (.int .i64 v5) := hcell 4
      clear r6 g6 hcell R5 N5 L5
      rcases (show v6 = 0 ∨ v6 = 1 ∨ v6 = 2 ∨ v6 = 3 ∨ v6 = 4 by omega) with rfl | rfl | rfl | rfl | rfl
      · go_wp2_with (at_builtin; refine wpList_appendB (.tmp 16) (.tmp 27) w.heap.size (some ad) m cap ds ⟨w6.heap.size, 0, none⟩ 0 rfl rfl rfl rfl (L6.out.alloc _) (by simp) (by omega) (by simp; omega) ?_; intro a2 cap2 w7 hg2 hb2; have HG2 := Lib.hid hg2; have HB2 := Lib.hid hb2; clear hg2 hb2)
        go_roundw
        case rel => exact ⟨q - 1, m + 1, a2, cap2, by go_num, rfl, bytesRel_step hq hqm HS.out ⟨by omega, by omega⟩ R6.out (by omega) N6.out hRw HG2.out HB2.out⟩
        case measure => simp [intOf]; omega
      · go_wp2_with (at_builtin; refine wpList_appendB (.tmp 16) (.tmp 27) w.heap.size (some ad) m cap ds ⟨w6.heap.size, 0, none⟩ 255 rfl rfl rfl rfl (L6.out.alloc _) (by simp) (by omega) (by simp; omega) ?_; intro a2 cap2 w7 hg2 hb2; have HG2 := Lib.hid hg2; have HB2 := Lib.hid hb2; clear hg2 hb2)
        go_roundw
        case rel => exact ⟨q - 1, m + 1, a2, cap2, by go_num, rfl, bytesRel_step hq hqm HS.out ⟨by omega, by omega⟩ R6.out (by omega) N6.out hRw HG2.out HB2.out⟩
        case measure => simp [intOf]; omega
      · go_wp2_with (at_builtin; refine wpList_appendB (.tmp 16) (.tmp 27) w.heap.size (some ad) m cap ds ⟨w6.heap.size, 0, none⟩ 126 rfl rfl rfl rfl (L6.out.alloc _) (by simp) (by omega) (by simp; omega) ?_; intro a2 cap2 w7 hg2 hb2; have HG2 := Lib.hid hg2; have HB2 := Lib.hid hb2; clear hg2 hb2)
        go_roundw
        case rel => exact ⟨q - 1, m + 1, a2, cap2, by go_num, rfl, bytesRel_step hq hqm HS.out ⟨by omega, by omega⟩ R6.out (by omega) N6.out hRw HG2.out HB2.out⟩
        case measure => simp [intOf]; omega
      · go_wp2_with (at_builtin; refine wpList_appendB (.tmp 16) (.tmp 27) w.heap.size (some ad) m cap ds ⟨w6.heap.size, 0, none⟩ v4 rfl rfl rfl rfl (L6.out.alloc _) (by simp) (by omega) (by simp; omega) ?_; intro a2 cap2 w7 hg2 hb2; have HG2 := Lib.hid hg2; have HB2 := Lib.hid hb2; clear hg2 hb2)
        go_roundw
        case rel => exact ⟨q - 1, m + 1, a2, cap2, by go_num, rfl, bytesRel_step hq hqm HS.out ⟨hv4, hv4'⟩ R6.out (by omega) N6.out hRw HG2.out HB2.out⟩
        case measure => simp [intOf]; omega
      · go_wp2_with (at_builtin; refine wpList_appendB (.tmp 16) (.tmp 27) w.heap.size (some ad) m cap ds ⟨w6.heap.size, 0, none⟩ v5 rfl rfl rfl rfl (L6.out.alloc _) (by simp) (by omega) (by simp; omega) ?_; intro a2 cap2 w7 hg2 hb2; have HG2 := Lib.hid hg2; have HB2 := Lib.hid hb2; clear hg2 hb2)
        go_roundw
        case rel => exact ⟨q - 1, m + 1, a2, cap2, by go_num, rfl, bytesRel_step hq hqm HS.out ⟨hv5, hv5'⟩ R6.out (by omega) N6.out hRw HG2.out HB2.out⟩
        case measure => simp [intOf]; omega
    · go_wp2
      go_ret
      exact ⟨ds, ad, m, cap, p', rfl, by omega, HS.out, HG.out, HR.out, by omega, HN.out⟩
end Go.Proofs.Ytnedhpodfjlnmaa
