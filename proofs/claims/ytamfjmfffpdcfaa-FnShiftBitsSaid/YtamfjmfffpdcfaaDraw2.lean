/-
  How the laws draw lists of bits: what comes out, and what it leaves. Condition: fewer than 2^39 numbers were picked before.
-/
import Derived.Test.YtamfjmfffpdcfaaDraw1
namespace Go.Proofs.Ytamfjmfffpdcfaa
open Go.RowKit

def OddPost (R p : Nat) (w : World) (e : Ending) (w' : World) : Prop :=
  ∃ b : Bool, e = .returned (.bool b) ∧ Rd w' R (p + 1) ∧ w.grownBy w' (some R)
set_option maxHeartbeats 400000 in
theorem odd_any (R p : Nat) (n : Int) (w : World) (hr : Rd w R p) (hp : p ≤ 1099511627776) (hn1 : 1 ≤ n) (hn2 : n ≤ 1099511627776) :
    Calls Try.prog 54 #[.pointer (some ⟨R, 0, none⟩), .int .i64 n] w (OddPost R p w) := by
  have hn0 : 0 < n := by omega
  go_enter Try.func54, Try.ntmps54
  go_wp2_with fail
  refine (pick_any R p n w hr hp hn1 hn2).mono ?_
  rintro e w1 ⟨v, ⟨hv0, hv1⟩, rfl, hr1, hg1⟩
  have HR := Lib.hid hr1
  have HG := Lib.hid hg1
  clear hr1 hg1 hr
  go_wp2
  go_ret
  exact ⟨_, rfl, HR.out, HG.out⟩

/-- The code, cut to 2000 bytes, in a new reader. -/
def OpenPost (w : World) (e : Ending) (w' : World) : Prop :=
  e = .returned (.pointer (some ⟨w.heap.size, 0, none⟩)) ∧ Rd w' w.heap.size 0 ∧ Below w.heap.size w w'
theorem Ints.take {k : IntKind} {w : World} {B m : Nat} {a : Option Addr} {xs : List Int} (h : Ints k w B a xs) : Ints k w B a (xs.take m) := fun hne => by
  have hne' : xs ≠ [] := by intro e; subst e; simp at hne
  obtain ⟨b, off, e, hb, hc⟩ := h hne'
  refine ⟨b, off, e, hb, fun i hi => ?_⟩
  have hi2 : i < m ∧ i < xs.length := by simpa [Nat.lt_min] using hi
  rw [hc i hi2.2]
  simp [el, hi2.1, hi2.2]
theorem rd_new {w : World} {ba : Option Addr} {bc : Nat} {ds : List Int} (h3 : ds.length ≤ 2000) (h4 : ∀ n ∈ ds, isByte n) (h5 : Ints .u8 w w.heap.size ba ds) :
    Rd (w.alloc (.cells #[.slice ba ds.length bc, .int .i64 0] 70)) w.heap.size 0 :=
  ⟨ba, _, bc, ds, heap_alloc_last _ _, rfl, h3, h4, h5.below ((Below.refl _ _).alloc (Nat.le_refl _) _)⟩
set_option maxHeartbeats 400000 in
theorem open_any (a : Option Addr) (c : Nat) (ds : List Int) (w : World) (hx : Ints .u8 w w.heap.size a ds) (hw : ∀ n ∈ ds, isByte n) (hc : ds.length ≤ c) (hl : ds.length ≤ maxLen) (hcm : c ≤ maxLen) :
    Calls Try.prog 35 #[.slice a ds.length c] w (OpenPost w) := by
  unfold maxLen at hl hcm
  by_cases h : ds.length ≤ 2000
  · have HR := Lib.hid (rd_new (bc := c) h hw hx)
    clear hx hw
    go_enter Try.func35, Try.ntmps35
    go_wp2
    go_ret
    exact ⟨rfl, HR.out, (Below.refl _ _).alloc (Nat.le_refl _) _⟩
  · obtain ⟨b, off, rfl, hb, hc0⟩ := hx.at_ (i := 0) (by omega)
    have hlen : (ds.take 2000).length = 2000 := by simp; omega
    have HR := Lib.hid (rd_new (bc := c) (ds := ds.take 2000) (by omega) (fun n hn => hw n (List.mem_of_mem_take hn)) hx.take)
    rw [hlen] at HR
    clear hx hw hlen hc0
    go_enter Try.func35, Try.ntmps35
    go_wp2
    go_ret
    exact ⟨rfl, HR.out, (Below.refl _ _).alloc (Nat.le_refl _) _⟩

theorem Grow.grownR {k : IntKind} {t : TypeId} {w w' : World} {base n cap R : Nat} {a : Option Addr} {xs : List Int} (h : Grow k t w base a n cap xs) (hg : w.grownBy w' (some R)) (hR : R < base) : Grow k t w' base a n cap xs :=
  h.keep fun b hb hlt => hg.block b hlt (fun e => by injection e; omega)
theorem grown_below {w a b : World} {R B : Nat} (h : w.grownBy a (some R)) (hb : Below B a b) (hB : w.heap.size ≤ B) : w.grownBy b (some R) :=
  ⟨hb.os.trans h.os, hb.tape.trans h.tape, hb.output.trans h.output, Nat.le_trans h.size hb.size, fun j hj hne => (hb.block j (by omega)).trans (h.block j hj hne)⟩
theorem grown_trans {w a b : World} {R : Nat} (h : w.grownBy a (some R)) (h' : a.grownBy b (some R)) : w.grownBy b (some R) :=
  ⟨h'.os.trans h.os, h'.tape.trans h.tape, h'.output.trans h.output, Nat.le_trans h.size h'.size, fun j hj hne => (h'.block j (Nat.lt_of_lt_of_le hj h.size) hne).trans (h.block j hj hne)⟩

/-- A number that a drawn list of bits may hold. -/
def small (x : Int) : Prop := -1 ≤ x ∧ x ≤ 2
/-- A drawn list: in memory of its own, its numbers small; only the reader was written besides. -/
def BitsPost (R p most : Nat) (w : World) (e : Ending) (w' : World) : Prop :=
  ∃ xs ad n cap p', e = .returned (.slice (some ad) n cap) ∧ n ≤ most + 1 ∧ (∀ x ∈ xs, small x) ∧ Grow .i64 3 w' w.heap.size (some ad) n cap xs ∧ Rd w' R p' ∧ p' ≤ p + 2 * most + 8 ∧ w.grownBy w' (some R)
/-- The state of the loop that draws bits: m are drawn, q are to be drawn. -/
def BitsRel (R p most : Nat) (w : World) (q m : Nat) (v : Option Addr) (cap : Nat) (wr : World) : Prop :=
  ∃ xs ad p', v = some ad ∧ q + m ≤ most ∧ (∀ x ∈ xs, small x) ∧ Grow .i64 3 wr w.heap.size v m cap xs ∧ Rd wr R p' ∧ p' ≤ p + 3 + 2 * m ∧ w.grownBy wr (some R)
theorem grown_alloc {w a : World} {R : Nat} (h : w.grownBy a (some R)) (o : Obj) : w.grownBy (a.alloc o) (some R) :=
  ⟨h.os, h.tape, h.output, Nat.le_trans h.size (by simp), fun j hj hne => (Below.heap_alloc a o j (Nat.lt_of_lt_of_le hj h.size)).trans (h.block j hj hne)⟩
theorem Rd.alloc {w : World} {R p : Nat} (h : Rd w R p) (o : Obj) : Rd (w.alloc o) R p := h.below ((Below.refl _ _).alloc (Nat.le_refl _) o) h.lt
theorem small_snoc {xs : List Int} {x : Int} (h : ∀ y ∈ xs, small y) (hx : small x) : ∀ y ∈ xs ++ [x], small y := fun y hy => by
  rcases List.mem_append.1 hy with hy | hy
  · exact h y hy
  · simp at hy; subst hy; exact hx
theorem Grow.addr {k : IntKind} {t : TypeId} {w : World} {base n cap : Nat} {a : Option Addr} {xs : List Int} (h : Grow k t w base a (n + 1) cap xs) : ∃ ad, a = some ad := by
  obtain ⟨b, f, e, _⟩ := h.row (by omega)
  exact ⟨_, e⟩
/-- One bit more is drawn. -/
theorem bitsRel_step {R p most : Nat} {w W w' : World} {q m cap' p' : Nat} {xs : List Int} {nw : Int} {a' : Option Addr} {o : Obj} (hq : 0 < q) (h1 : q + m ≤ most) (h2 : ∀ x ∈ xs, small x) (hnw : 0 ≤ nw ∧ nw < 2)
    (hr : Rd W R p') (hp : p' ≤ p + 3 + 2 * (m + 1)) (hg : w.grownBy W (some R)) (hR : R < w.heap.size)
    (hgr : Grow .i64 3 w' w.heap.size a' (m + 1) cap' (xs ++ [nw])) (hb : Below w.heap.size (W.alloc o) w') : BitsRel R p most w (q - 1) (m + 1) a' cap' w' := by
  obtain ⟨ad, e⟩ := hgr.addr
  exact ⟨_, ad, p', e, by omega, small_snoc h2 ⟨by omega, by omega⟩, hgr, (hr.alloc o).below hb hR, hp, grown_below (grown_alloc hg o) hb (Nat.le_refl _)⟩

set_option maxHeartbeats 2000000 in
theorem bits_any (R p most : Nat) (n : Int) (w : World) (hr : Rd w R p) (hp : p ≤ 549755813888) (hm : most ≤ 2000) (hn1 : 1 ≤ n) (hn2 : n ≤ 1000000) :
    Calls Try.prog 44 #[.pointer (some ⟨R, 0, none⟩), .int .i64 most, .int .i64 n] w (BitsPost R p most w) := by
  have HR0 := Lib.hid hr
  have hRw := hr.lt
  clear hr
  go_enter Try.func44, Try.ntmps44
  go_wp2_with fail
  refine (pick_any R p 4 _ (HR0.out.alloc _) (by omega) (by omega) (by omega)).mono ?_
  rintro e w1 ⟨v1, ⟨hv1, hv1'⟩, rfl, r1, g1⟩
  have R1 := Lib.hid r1
  have G1 := Lib.hid (grown_trans (grown_alloc (World.grownBy.refl w (some R)) _) g1)
  have L1 := Lib.hid ((Grow.lit0 .i64 3 w w.heap.size (Nat.le_refl _)).grownR g1 hRw)
  clear r1 g1
  go_wp2_with fail
  refine (pick_any R (p + 1) 2 w1 R1.out (by omega) (by omega) (by omega)).mono ?_
  rintro e w2 ⟨v2, ⟨hv2, hv2'⟩, rfl, r2, g2⟩
  have R2 := Lib.hid r2
  have G2 := Lib.hid (grown_trans G1.out g2)
  have L2 := Lib.hid (L1.out.grownR g2 hRw)
  clear r2 g2 R1 G1 L1
  go_wp2_with fail
  refine (pick_any R (p + 1 + 1) ((most : Int) + 1) w2 R2.out (by omega) (by omega) (by omega)).mono ?_
  rintro e w3 ⟨v3, ⟨hv3, hv3'⟩, rfl, r3, g3⟩
  have R3 := Lib.hid r3
  have G3 := Lib.hid (grown_trans G2.out g3)
  have L3 := Lib.hid (L2.out.grownR g3 hRw)
  clear r3 g3 R2 G2 L2
  obtain ⟨q0, rfl⟩ : ∃ q0 : Nat, v3 = (q0 : Int) := ⟨v3.toNat, by omega⟩
  obtain ⟨st, hst⟩ : ∃ st : Int, st = 1 + v1 := ⟨_, rfl⟩
  go_wp2
  go_loopw [7, 9, 10] (fun s nw i wr => ∃ (q m : Nat) (v : Option Addr) (cap : Nat) (x : Int), i = .int .i64 q ∧ nw = .int .i64 x ∧ (0 ≤ x ∧ x < 2) ∧ s = .slice v m cap ∧ BitsRel R p most w q m v cap wr) (fun _ _ i _ => (intOf i).toNat)
  case atStart => exact ⟨q0, 0, _, _, v2, rfl, rfl, ⟨hv2, hv2'⟩, rfl, [], _, p + 1 + 1 + 1, rfl, by omega, by simp, L3.out, R3.out, by omega, G3.out⟩
  case round =>
    obtain ⟨q, m, v, cap, x, rfl, rfl, ⟨hx0, hx1⟩, rfl, xs, ad, p', rfl, hqm, hsm, hgr, hrd, hp', hgn⟩ := hrel
    have HG := Lib.hid hgr
    have HS := Lib.hid hsm
    have HR := Lib.hid hrd
    have HN := Lib.hid hgn
    have hsz : w.heap.size ≤ wr.heap.size := hgn.size
    clear hgr hsm hrd hgn R3 G3 L3
    by_cases hq : 0 < q
    · go_wp2_with fail
      refine (pick_any R p' (1 + v1) wr HR.out (by omega) (by omega) (by omega)).mono ?_
      rintro e w4 ⟨v4, ⟨hv4, hv4'⟩, rfl, r4, g4⟩
      have R4 := Lib.hid r4
      have N4 := Lib.hid (grown_trans HN.out g4)
      have L4 := Lib.hid (HG.out.grownR g4 hRw)
      have hsz4 : w.heap.size ≤ w4.heap.size := by have := g4.size; omega
      clear r4 g4
      by_cases hz : v4 = 0
      · have hzb : (v4 == 0) = true := by simp [hz]
        clear hz
        go_wp2_with fail
        refine (pick_any R (p' + 1) 2 w4 R4.out (by omega) (by omega) (by omega)).mono ?_
        rintro e w5 ⟨v5, ⟨hv5, hv5'⟩, rfl, r5, g5⟩
        have R5 := Lib.hid r5
        have N5 := Lib.hid (grown_trans N4.out g5)
        have L5 := Lib.hid (L4.out.grownR g5 hRw)
        have hsz5 : w.heap.size ≤ w5.heap.size := by have := g5.size; omega
        clear r5 g5
        go_wp2_with (at_builtin; refine wpList_append1 (.tmp 31) (.tmp 33) w.heap.size (some ad) m cap xs ⟨w5.heap.size, 0, none⟩ v5 rfl rfl rfl rfl (L5.out.alloc _) (by simp) (by omega) (by simp; omega) ?_; intro a2 cap2 w6 hg2 hb2; have HG2 := Lib.hid hg2; have HB2 := Lib.hid hb2; clear hg2 hb2)
        go_roundw
        case rel => exact ⟨q - 1, m + 1, a2, cap2, v5, by go_num, rfl, ⟨hv5, hv5'⟩, rfl, bitsRel_step hq hqm HS.out ⟨hv5, hv5'⟩ R5.out (by omega) N5.out hRw HG2.out HB2.out⟩
        case measure => simp [intOf]; omega
      · have hzb : (v4 == 0) = false := by simp [hz]
        clear hz
        go_wp2_with (at_builtin; refine wpList_append1 (.tmp 31) (.tmp 33) w.heap.size (some ad) m cap xs ⟨w4.heap.size, 0, none⟩ x rfl rfl rfl rfl (L4.out.alloc _) (by simp) (by omega) (by simp; omega) ?_; intro a2 cap2 w6 hg2 hb2; have HG2 := Lib.hid hg2; have HB2 := Lib.hid hb2; clear hg2 hb2)
        go_roundw
        case rel => exact ⟨q - 1, m + 1, a2, cap2, x, by go_num, rfl, ⟨hx0, hx1⟩, rfl, bitsRel_step hq hqm HS.out ⟨hx0, hx1⟩ R4.out (by omega) N4.out hRw HG2.out HB2.out⟩
        case measure => simp [intOf]; omega
    · go_wp2_with fail
      refine (odd_any R p' n wr HR.out (by omega) hn1 (by omega)).mono ?_
      rintro e w4 ⟨b4, rfl, r4, g4⟩
      have R4 := Lib.hid r4
      have N4 := Lib.hid (grown_trans HN.out g4)
      have L4 := Lib.hid (HG.out.grownR g4 hRw)
      have hsz4 : w.heap.size ≤ w4.heap.size := by have := g4.size; omega
      clear r4 g4
      cases b4
      · go_wp2
        go_ret
        exact ⟨xs, ad, m, cap, p' + 1, rfl, by omega, HS.out, L4.out, R4.out, by omega, N4.out⟩
      · go_wp2_with fail
        refine (pick_any R (p' + 1) 2 _ (R4.out.alloc _) (by omega) (by omega) (by omega)).mono ?_
        rintro e w5 ⟨v5, ⟨hv5, hv5'⟩, rfl, r5, g5⟩
        have R5 := Lib.hid r5
        have N5 := Lib.hid (grown_trans (grown_alloc N4.out _) g5)
        have L5 := Lib.hid ((L4.out.alloc _).grownR g5 hRw)
        have hsz5 : w.heap.size ≤ w5.heap.size := by have := g5.size; simp at this; omega
        have c0 : w5.cell? ⟨w4.heap.size, 0, none⟩ = some (.int .i64 2) := (World.cell?_of_block (g5.block _ (by simp) (fun e => by simp at e; omega))).trans (by simp)
        have c1 : w5.cell? ⟨w4.heap.size, 1, none⟩ = some (.int .i64 (-1)) := (World.cell?_of_block (g5.block _ (by simp) (fun e => by simp at e; omega))).trans (by simp)
        clear r5 g5
        by_cases hz : v5 = 0
        · subst hz
          go_wp2_with (at_builtin; refine wpList_append1 (.tmp 38) (.tmp 44) w.heap.size (some ad) m cap xs ⟨w5.heap.size, 0, none⟩ 2 rfl rfl rfl rfl (L5.out.alloc _) (by simp) (by omega) (by simp; omega) ?_; intro a2 cap2 w6 hg2 hb2; have HG2 := Lib.hid hg2; have HB2 := Lib.hid hb2; clear hg2 hb2)
          go_ret
          obtain ⟨ad2, rfl⟩ := HG2.out.addr
          exact ⟨_, ad2, m + 1, cap2, p' + 1 + 1, rfl, by omega, small_snoc HS.out ⟨by omega, by omega⟩, HG2.out, (R5.out.alloc _).below HB2.out hRw, by omega, grown_below (grown_alloc N5.out _) HB2.out (Nat.le_refl _)⟩
        · obtain rfl : v5 = 1 := by omega
          go_wp2_with (at_builtin; refine wpList_append1 (.tmp 38) (.tmp 44) w.heap.size (some ad) m cap xs ⟨w5.heap.size, 0, none⟩ (-1) rfl rfl rfl rfl (L5.out.alloc _) (by simp) (by omega) (by simp; omega) ?_; intro a2 cap2 w6 hg2 hb2; have HG2 := Lib.hid hg2; have HB2 := Lib.hid hb2; clear hg2 hb2)
          go_ret
          obtain ⟨ad2, rfl⟩ := HG2.out.addr
          exact ⟨_, ad2, m + 1, cap2, p' + 1 + 1, rfl, by omega, small_snoc HS.out ⟨by omega, by omega⟩, HG2.out, (R5.out.alloc _).below HB2.out hRw, by omega, grown_below (grown_alloc N5.out _) HB2.out (Nat.le_refl _)⟩
end Go.Proofs.Ytamfjmfffpdcfaa
