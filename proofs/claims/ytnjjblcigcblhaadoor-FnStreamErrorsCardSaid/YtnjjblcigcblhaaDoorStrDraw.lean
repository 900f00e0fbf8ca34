/-
  How the laws of the stream code draw their lists: what comes out, and what it leaves. Condition: the code has at most 2^20 bytes.
-/
import Derived.Test.YtnjjblcigcblhaaDoorDraws
import Derived.Test.YtnjjblcigcblhaaDoorStr5
namespace Go.Proofs.YtnjjblcigcblhaaDoor
open Go.RowKit

def bitV (x : Int) : Prop := x = 0 ∨ x = 1
theorem bitV_snoc {xs : List Int} {x : Int} (h : ∀ y ∈ xs, bitV y) (hx : bitV x) : ∀ y ∈ xs ++ [x], bitV y := fun y hy => by
  rcases List.mem_append.1 hy with hy | hy
  · exact h y hy
  · simp at hy; subst hy; exact hx
theorem bitV_all {xs : List Int} (h : ∀ y ∈ xs, bitV y) : xs.all isBit = true := List.all_eq_true.2 fun y hy => by
  rcases h y hy with rfl | rfl <;> rfl
/-- A drawn list of bits: in memory of its own; only the reader was written besides. -/
def BitsPostV (R p most : Nat) (w : World) (e : Ending) (w' : World) : Prop :=
  ∃ xs ad n cap p', e = .returned (.slice (some ad) n cap) ∧ n ≤ most + 1 ∧ (∀ x ∈ xs, bitV x) ∧ Grow .i64 3 w' w.heap.size (some ad) n cap xs ∧ Rd w' R p' ∧ p' ≤ p + 2 * most + 8 ∧ w.grownBy w' (some R)
def BitsRelV (R p most : Nat) (w : World) (q m : Nat) (v : Option Addr) (cap : Nat) (wr : World) : Prop :=
  ∃ xs ad p', v = some ad ∧ q + m ≤ most ∧ (∀ x ∈ xs, bitV x) ∧ Grow .i64 3 wr w.heap.size v m cap xs ∧ Rd wr R p' ∧ p' ≤ p + 3 + 2 * m ∧ w.grownBy wr (some R)
/-- One bit more is drawn. -/
theorem bitsRelV_step {R p most : Nat} {w W w' : World} {q m cap' p' : Nat} {xs : List Int} {nw : Int} {a' : Option Addr} {o : Obj} (hq : 0 < q) (h1 : q + m ≤ most) (h2 : ∀ x ∈ xs, bitV x) (hnw : 0 ≤ nw ∧ nw < 2)
    (hr : Rd W R p') (hp : p' ≤ p + 3 + 2 * (m + 1)) (hg : w.grownBy W (some R)) (hR : R < w.heap.size)
    (hgr : Grow .i64 3 w' w.heap.size a' (m + 1) cap' (xs ++ [nw])) (hb : Below w.heap.size (W.alloc o) w') : BitsRelV R p most w (q - 1) (m + 1) a' cap' w' := by
  obtain ⟨ad, e⟩ := hgr.addr
  exact ⟨_, ad, p', e, by omega, bitV_snoc h2 (by unfold bitV; omega), hgr, (hr.alloc o).below hb hR, hp, grown_below (grown_alloc hg o) hb (Nat.le_refl _)⟩

set_option maxHeartbeats 2000000 in
theorem bitsV_any (R p most : Nat) (w : World) (hr : Rd w R p) (hp : p ≤ 549755813888) (hm : most ≤ 2000) :
    Calls Tryd.prog 34 #[.pointer (some ⟨R, 0, none⟩), .int .i64 most, .int .i64 0] w (BitsPostV R p most w) := by
  have HR0 := Lib.hid hr
  have hRw := hr.lt
  clear hr
  go_enter Tryd.func34, Tryd.ntmps34
  go_wp2_with fail
  refine (pick_any R p 4 _ (HR0.out.alloc _) (by omega) (by omega) (by omega)).mono ?_
  rintro e w1 ⟨v1, ⟨hv1, hv1'⟩, rfl, r1, g1⟩
  have R1 := Lib.hid r1
  have G1 := Lib.hid (grown_trans (grown_alloc (World.grownBy.refl w (some R)) _) g1)
  have L1 := Lib.hid ((Grow.lit0 .i64 3 w w.heap.size (Nat.le_refl _)).grownR g1 hRw)
  clear r1 g1
  go_wp2_with fail
  refine (pick_any R (p + 1) 2 w1 R1.out (by omega) (by omega) (by omega)).mono ?_
  rintro e w2 ⟨v2, ⟨hv2, hv2'⟩, rfl, r2, g2⟩
  have R2 := Lib.hid r2
  have G2 := Lib.hid (grown_trans G1.out g2)
  have L2 := Lib.hid (L1.out.grownR g2 hRw)
  clear r2 g2 R1 G1 L1
  go_wp2_with fail
  refine (pick_any R (p + 1 + 1) ((most : Int) + 1) w2 R2.out (by omega) (by omega) (by omega)).mono ?_
  rintro e w3 ⟨v3, ⟨hv3, hv3'⟩, rfl, r3, g3⟩
  have R3 := Lib.hid r3
  have G3 := Lib.hid (grown_trans G2.out g3)
  have L3 := Lib.hid (L2.out.grownR g3 hRw)
  clear r3 g3 R2 G2 L2
  obtain ⟨q0, rfl⟩ : ∃ q0 : Nat, v3 = (q0 : Int) := ⟨v3.toNat, by omega⟩
  obtain ⟨st, hst⟩ : ∃ st : Int, st = 1 + v1 := ⟨_, rfl⟩
  go_wp2
  go_loopw [7, 9, 10] (fun s nw i wr => ∃ (q m : Nat) (v : Option Addr) (cap : Nat) (x : Int), i = .int .i64 q ∧ nw = .int .i64 x ∧ (0 ≤ x ∧ x < 2) ∧ s = .slice v m cap ∧ BitsRelV R p most w q m v cap wr) (fun _ _ i _ => (intOf i).toNat)
  case atStart => exact ⟨q0, 0, _, _, v2, rfl, rfl, ⟨hv2, hv2'⟩, rfl, [], _, p + 1 + 1 + 1, rfl, by omega, by simp, L3.out, R3.out, by omega, G3.out⟩
  case round =>
    obtain ⟨q, m, v, cap, x, rfl, rfl, ⟨hx0, hx1⟩, rfl, xs, ad, p', rfl, hqm, hsm, hgr, hrd, hp', hgn⟩ := hrel
    have HG := Lib.hid hgr
    have HS := Lib.hid hsm
    have HR := Lib.hid hrd
    have HN := Lib.hid hgn
    have hsz : w.heap.size ≤ wr.heap.size := hgn.size
    clear hgr hsm hrd hgn R3 G3 L3
    by_cases hq : 0 < q
    · go_wp2_with fail
      refine (pick_any R p' (1 + v1) wr HR.out (by omega) (by omega) (by omega)).mono ?_
      rintro e w4 ⟨v4, ⟨hv4, hv4'⟩, rfl, r4, g4⟩
      have R4 := Lib.hid r4
      have N4 := Lib.hid (grown_trans HN.out g4)
      have L4 := Lib.hid (HG.out.grownR g4 hRw)
      have hsz4 : w.heap.size ≤ w4.heap.size := by have := g4.size; omega
      clear r4 g4
      by_cases hz : v4 = 0
      · have hzb : (v4 == 0) = true := by simp [hz]
        clear hz
        go_wp2_with fail
        refine (pick_any R (p' + 1) 2 w4 R4.out (by omega) (by omega) (by omega)).mono ?_
        rintro e w5 ⟨v5, ⟨hv5, hv5'⟩, rfl, r5, g5⟩
        have R5 := Lib.hid r5
        have N5 := Lib.hid (grown_trans N4.out g5)
        have L5 := Lib.hid (L4.out.grownR g5 hRw)
        have hsz5 : w.heap.size ≤ w5.heap.size := by have := g5.size; omega
        clear r5 g5
        go_wp2_with (at_builtin; refine wpList_append1 (.tmp 31) (.tmp 33) w.heap.size (some ad) m cap xs ⟨w5.heap.size, 0, none⟩ v5 rfl rfl rfl rfl (L5.out.alloc _) (by simp) (by omega) (by simp; omega) ?_; intro a2 cap2 w6 hg2 hb2; have HG2 := Lib.hid hg2; have HB2 := Lib.hid hb2; clear hg2 hb2)
        go_roundw
        case rel => exact ⟨q - 1, m + 1, a2, cap2, v5, by go_num, rfl, ⟨hv5, hv5'⟩, rfl, bitsRelV_step hq hqm HS.out ⟨hv5, hv5'⟩ R5.out (by omega) N5.out hRw HG2.out HB2.out⟩
        case measure => simp [intOf]; omega
      · have hzb : (v4 == 0) = false := by simp [hz]
        clear hz
        go_wp2_with (at_builtin; refine wpList_append1 (.tmp 31) (.tmp 33) w.heap.size (some ad) m cap xs ⟨w4.heap.size, 0, none⟩ x rfl rfl rfl rfl (L4.out.alloc _) (by simp) (by omega) (by simp; omega) ?_; intro a2 cap2 w6 hg2 hb2; have HG2 := Lib.hid hg2; have HB2 := Lib.hid hb2; clear hg2 hb2)
        go_roundw
        case rel => exact ⟨q - 1, m + 1, a2, cap2, x, by go_num, rfl, ⟨hx0, hx1⟩, rfl, bitsRelV_step hq hqm HS.out ⟨hx0, hx1⟩ R4.out (by omega) N4.out hRw HG2.out HB2.out⟩
        case measure => simp [intOf]; omega
    · go_wp2_with fail
      refine (oddZ_any R wr).mono ?_
      rintro e w' ⟨rfl, rfl⟩
      go_wp2
      go_ret
      exact ⟨xs, ad, m, cap, p', rfl, by omega, HS.out, HG.out, HR.out, by omega, HN.out⟩


/-- A list that a law draws. -/
def DrawnS (w : World) (e : Ending) (w' : World) : Prop :=
  ∃ xs a c, e = .returned (.slice a xs.length c) ∧ (xs.length ≤ 1100 ∧ xs.length ≤ c ∧ c ≤ maxLen) ∧ Ints .i64 w' w'.heap.size a xs ∧ Below w.heap.size w w'
theorem belowS_Rd {w w1 w2 : World} {R : Nat} (h : Below w.heap.size w w1) (hg : w1.grownBy w2 (some R)) (hR : w.heap.size ≤ R) : Below w.heap.size w w2 := h.grown hg h.size (fun k e => by injection e; omega)
theorem drawnS_grow {w w' : World} {a : Option Addr} {n cap base : Nat} {ys : List Int} (hg : Grow .i64 3 w' base a n cap ys) (hn : n ≤ 1100) (hb : Below w.heap.size w w') : DrawnS w (.returned (.slice a n cap)) w' := by
  have hl := hg.len
  subst hl
  exact ⟨ys, a, cap, rfl, ⟨hn, hg.room⟩, hg.ints, hb⟩
theorem drawnS_made {w w1 : World} {n : Nat} (hb : Below w.heap.size w w1) (hn : n ≤ 1000) : DrawnS w (.returned (.slice (some ⟨w1.heap.size, 0, none⟩) n n)) (w1.alloc (.cells (madeCells #[.int .i64 0] n) 3)) := by
  refine ⟨zeros n, some ⟨w1.heap.size, 0, none⟩, n, by rw [zeros_length], ⟨by rw [zeros_length]; omega, by rw [zeros_length]; exact Nat.le_refl _, by unfold maxLen; omega⟩, fun _ => ?_, hb.alloc hb.size _⟩
  refine ⟨w1.heap.size, 0, rfl, by simp, fun i hi => ?_⟩
  rw [zeros_length] at hi
  rw [Nat.zero_add, (World.rowIs_made w1 (.int .i64 0) n 3).cell hi, zeros_el]
theorem flip_bits {xs : List Int} (hb : xs.all isBit = true) {i : Nat} (hi : i < xs.length) : (xs.set i (1 - el xs i)).all isBit = true := by
  rw [List.all_eq_true] at hb ⊢
  intro y hy
  rcases List.mem_or_eq_of_mem_set hy with hy | rfl
  · exact hb y hy
  · rcases isBit_cases (hb _ (el_mem hi)) with h | h <;> rw [h] <;> rfl
theorem Grow.cellS {k : IntKind} {t : TypeId} {w : World} {base n cap b i : Nat} {xs : List Int} (h : Grow k t w base (some ⟨b, 0, none⟩) n cap xs) (hi : i < n) : w.cell? ⟨b, i, none⟩ = some (.int k (el xs i)) ∧ w.frozen? ⟨b, i, none⟩ = false := by
  obtain ⟨b', f, e, _, _, hc, hr, hf⟩ := h.row (by omega)
  injection e with e
  injection e with e
  subst e
  exact ⟨by rw [hr.cell (by omega), hf i hi], hr.frozen i⟩
set_option maxHeartbeats 1000000 in
theorem drawEncodeStream_any (a : Option Addr) (c : Nat) (ds : List Int) (w : World) (hx : Ints .u8 w w.heap.size a ds) (hw : ∀ n ∈ ds, isByte n) (hc : ds.length ≤ c) (hcm : c ≤ maxLen) :
    Calls Tryd.prog 11 #[.slice a ds.length c] w (DrawnS w) := by
  have hl : ds.length ≤ maxLen := Nat.le_trans hc hcm
  go_enter Tryd.func11, Tryd.ntmps11
  go_wp2_with fail
  refine (open_any a c ds w hx hw hc hl hcm).mono ?_
  rintro e w1 ⟨rfl, r1, b1⟩
  have R1 := Lib.hid r1
  have B1 := Lib.hid b1
  clear hx hw hc hcm hl r1 b1
  go_wp2_with fail
  refine (odd_any w.heap.size 0 14 w1 R1.out (by omega) (by omega) (by omega)).mono ?_
  rintro e w2 ⟨b2, rfl, r2, g2⟩
  have R2 := Lib.hid r2
  have B2 := Lib.hid (belowS_Rd B1.out g2 (Nat.le_refl _))
  clear r2 g2 R1 B1
  cases b2
  · go_wp2_with fail
    refine (bits_any w.heap.size (0 + 1) 14 9 w2 R2.out (by omega) (by omega) (by omega) (by omega)).mono ?_
    rintro e w3 ⟨xs, ad, n, cap, p', rfl, hn, _, hg3, _, _, gn3⟩
    have H3 := Lib.hid (drawnS_grow hg3 (by omega) (belowS_Rd B2.out gn3 (Nat.le_refl _)))
    clear hg3 gn3
    go_wp2
    go_ret
    exact H3.out
  · go_wp2_with fail
    refine (pick_any w.heap.size (0 + 1) 2 w2 R2.out (by omega) (by omega) (by omega)).mono ?_
    rintro e w3 ⟨v3, ⟨hv3, hv3'⟩, rfl, r3, g3⟩
    have B3 := Lib.hid (belowS_Rd B2.out g3 (Nat.le_refl _))
    clear r3 g3 R2 B2
    have hv : v3 = 0 ∨ v3 = 1 := by omega
    clear hv3 hv3'
    rcases hv with rfl | rfl
    · have hmk : ∀ W, (Instr.makeSlice 23 (.int .i64 40) (.int .i64 40)).run Tryd.prog W = .ok (.slice (some ⟨W.heap.size, 0, none⟩) 40 40) (W.alloc (.cells (madeCells #[.int .i64 0] 40) 3)) := run_make_row' (P := Tryd.prog) 23 3 (.int .i64 0) 8 Tryd.underlying23 Tryd.infoInt rfl .i64 .i64 40 (by omega) (by omega)
      go_wp2
      go_ret
      exact drawnS_made B3.out (by omega)
    · have hmk : ∀ W, (Instr.makeSlice 23 (.int .i64 41) (.int .i64 41)).run Tryd.prog W = .ok (.slice (some ⟨W.heap.size, 0, none⟩) 41 41) (W.alloc (.cells (madeCells #[.int .i64 0] 41) 3)) := run_make_row' (P := Tryd.prog) 23 3 (.int .i64 0) 8 Tryd.underlying23 Tryd.infoInt rfl .i64 .i64 41 (by omega) (by omega)
      go_wp2
      go_ret
      exact drawnS_made B3.out (by omega)
set_option maxHeartbeats 2000000 in
theorem l20Stream_any (R : Nat) (w0 w : World) (hr : Rd w R 0) (hR0 : w0.heap.size ≤ R) (hb0 : Below w0.heap.size w0 w) :
    Calls Tryd.prog 44 #[.pointer (some ⟨R, 0, none⟩)] w (DrawnS w0) := by
  have HB0 := Lib.hid hb0
  have hRw := hr.lt
  have HR0 := Lib.hid hr
  clear hb0 hr
  go_enter Tryd.func44, Tryd.ntmps44
  go_wp2_with fail
  refine (bitsV_any R 0 12 w HR0.out (by omega) (by omega)).mono ?_
  rintro e w1 ⟨xs, ad, m, cap, p1, rfl, hm, hbv, hg1, r1, hp1, gn1⟩
  have hb := bitV_all hbv
  have hlx := hg1.len
  subst hlx
  have R1 := Lib.hid r1
  have B1 := Lib.hid (belowS_Rd HB0.out gn1 hR0)
  have HS := Lib.hid (specEncodeStream_new (some ad) cap xs w1 hg1.ints (by unfold maxLen; omega))
  have HY := Lib.hid (codeL_bits hb)
  have HE := Lib.hid (strOr_yes (strOk_mk (by omega) hb))
  have hcl := codeL_length xs
  have hR1 : R < w1.heap.size := r1.lt
  have hs1 : w0.heap.size ≤ w1.heap.size := (belowS_Rd HB0.out gn1 hR0).size
  clear hbv hb hg1 r1 gn1
  go_wp2_with fail
  refine HS.out.mono ?_
  rw [HE.out]
  rintro e w2 ⟨g, n, cap2, rfl, hg2, hb2⟩
  have hn := hg2.len
  have G2 := Lib.hid hg2
  have R2 := Lib.hid (R1.out.below hb2 hR1)
  have B2 := Lib.hid (Below.next B1.out (Nat.le_refl _) hb2)
  have s2 : w1.heap.size ≤ w2.heap.size := hb2.size
  have hn100 : n ≤ 100 := by omega
  have hn0 : 0 < n := by omega
  clear hg2 hb2 HS HE
  go_wp2_with fail
  refine (pick_any R p1 4 w2 R2.out (by omega) (by omega) (by omega)).mono ?_
  rintro e w3 ⟨v3, ⟨hv3, hv3'⟩, rfl, r3, g3⟩
  have R3 := Lib.hid r3
  have B3 := Lib.hid (belowS_Rd B2.out g3 hR0)
  have G3 := Lib.hid (G2.out.grownR g3 hR1)
  have s3 : w1.heap.size ≤ w3.heap.size := by have := g3.size; omega
  obtain ⟨q0, rfl⟩ : ∃ q0 : Nat, v3 = (q0 : Int) := ⟨v3.toNat, by omega⟩
  obtain ⟨C, hC⟩ : ∃ C, C = codeL xs := ⟨_, rfl⟩
  rw [← hC] at G3 HY
  clear r3 g3 R2 B2 G2 hn hcl hC
  go_wp2
  go_loopw [4] (fun i wr => ∃ (k p' : Nat) (ys : List Int), k ≤ q0 ∧ i = .int .i64 (k : Nat) ∧ ys.all isBit = true ∧ Grow .i64 3 wr w1.heap.size (some ⟨g, 0, none⟩) n cap2 ys ∧ Rd wr R p' ∧ p' + k ≤ 100 ∧ Below w0.heap.size w0 wr ∧ w1.heap.size ≤ wr.heap.size) (fun i _ => (intOf i).toNat)
  case atStart => exact ⟨q0, p1 + 1, C, by omega, rfl, HY.out, G3.out, R3.out, by omega, B3.out, s3⟩
  case round =>
    obtain ⟨k, p', ys, hk, rfl, hys, hgr, hrd, hp', hbe, hsz⟩ := hrel
    have HG := Lib.hid hgr
    have HYS := Lib.hid hys
    have HR := Lib.hid hrd
    have HB := Lib.hid hbe
    clear hgr hys hrd hbe
    by_cases hlt : 0 < k
    · go_wp2_with fail
      refine (pick_any R p' (n : Int) wr HR.out (by omega) (by omega) (by omega)).mono ?_
      rintro e w7 ⟨v7, ⟨hv7, hv7'⟩, rfl, r7, g7⟩
      have R7 := Lib.hid r7
      have B7 := Lib.hid (belowS_Rd HB.out g7 hR0)
      have G7 := Lib.hid (HG.out.grownR g7 hR1)
      have s7 : w1.heap.size ≤ w7.heap.size := by have := g7.size; omega
      clear r7 g7
      obtain ⟨j, rfl⟩ : ∃ j : Nat, v7 = (j : Int) := ⟨v7.toNat, by omega⟩
      have hj : j < n := by omega
      obtain ⟨hc, hfz⟩ := G7.out.cellS hj
      have hbk := G7.out.blockBound
      have hlen := G7.out.len
      have h01 := isBit_cases (List.all_eq_true.1 HYS.out _ (el_mem (xs := ys) (i := j) (by omega)))
      have HY2 := Lib.hid (flip_bits HYS.out (i := j) (by omega))
      obtain ⟨x, hxx⟩ : ∃ x, x = el ys j := ⟨_, rfl⟩
      rw [← hxx] at hc h01 HY2
      have hx0 : 0 ≤ x := by omega
      have hx1 : x ≤ 1 := by omega
      have B8 := Lib.hid (B7.out.setCell (p := ⟨g, j, none⟩) (by show w0.heap.size ≤ g; omega) (.int .i64 (1 - x)))
      have G8 := Lib.hid (G7.out.set j (1 - x))
      have R8 := Lib.hid (R7.out.below ((Below.refl (R + 1) w7).setCell (p := ⟨g, j, none⟩) (by show R + 1 ≤ g; omega) (.int .i64 (1 - x))) (by omega))
      clear hxx h01 hlen
      go_wp2
      go_roundw
      case rel => exact ⟨k - 1, p' + 1, _, by omega, by go_num, HY2.out, G8.out, R8.out, by omega, B8.out, by simpa [World.setCell] using s7⟩
      case measure => simp [intOf]; omega
    · go_wp2_with fail
      refine (odd_any R p' 9 wr HR.out (by omega) (by omega) (by omega)).mono ?_
      rintro e w7 ⟨b7, rfl, r7, g7⟩
      have R7 := Lib.hid r7
      have B7 := Lib.hid (belowS_Rd HB.out g7 hR0)
      have G7 := Lib.hid (HG.out.grownR g7 hR1)
      clear r7 g7
      cases b7
      · go_wp2
        go_ret
        exact drawnS_grow G7.out (by omega) B7.out
      · go_wp2_with fail
        refine (bits_any R (p' + 1) 30 3 w7 R7.out (by omega) (by omega) (by omega) (by omega)).mono ?_
        rintro e w8 ⟨zs, ad8, n8, cap8, p8, rfl, hn8, _, hg8, _, _, gn8⟩
        have H8 := Lib.hid (drawnS_grow hg8 (by omega) (belowS_Rd B7.out gn8 hR0))
        clear hg8 gn8
        go_wp2
        go_ret
        exact H8.out
theorem drawDecodeStream_any (a : Option Addr) (c : Nat) (ds : List Int) (w : World) (hx : Ints .u8 w w.heap.size a ds) (hw : ∀ n ∈ ds, isByte n) (hc : ds.length ≤ c) (hcm : c ≤ maxLen) :
    Calls Tryd.prog 20 #[.slice a ds.length c] w (DrawnS w) := by
  have hl : ds.length ≤ maxLen := Nat.le_trans hc hcm
  go_enter Tryd.func20, Tryd.ntmps20
  go_wp2_with fail
  refine (open_any a c ds w hx hw hc hl hcm).mono ?_
  rintro e w1 ⟨rfl, r1, b1⟩
  have R1 := Lib.hid r1
  have B1 := Lib.hid b1
  clear hx hw hc hcm hl r1 b1
  go_wp2_with fail
  refine (l20Stream_any w.heap.size w w1 R1.out (Nat.le_refl _) B1.out).mono ?_
  rintro e w2 h2
  have H2 := Lib.hid h2
  obtain ⟨xs, ad, cap, rfl, _⟩ := h2
  go_wp2
  go_ret
  exact H2.out
theorem drawStreamErrors_any (a : Option Addr) (c : Nat) (ds : List Int) (w : World) (hx : Ints .u8 w w.heap.size a ds) (hw : ∀ n ∈ ds, isByte n) (hc : ds.length ≤ c) (hcm : c ≤ maxLen) :
    Calls Tryd.prog 23 #[.slice a ds.length c] w (DrawnS w) := by
  have hl : ds.length ≤ maxLen := Nat.le_trans hc hcm
  go_enter Tryd.func23, Tryd.ntmps23
  go_wp2_with fail
  refine (open_any a c ds w hx hw hc hl hcm).mono ?_
  rintro e w1 ⟨rfl, r1, b1⟩
  have R1 := Lib.hid r1
  have B1 := Lib.hid b1
  clear hx hw hc hcm hl r1 b1
  go_wp2_with fail
  refine (l20Stream_any w.heap.size w w1 R1.out (Nat.le_refl _) B1.out).mono ?_
  rintro e w2 h2
  have H2 := Lib.hid h2
  obtain ⟨xs, ad, cap, rfl, _⟩ := h2
  go_wp2
  go_ret
  exact H2.out
end Go.Proofs.YtnjjblcigcblhaaDoor
