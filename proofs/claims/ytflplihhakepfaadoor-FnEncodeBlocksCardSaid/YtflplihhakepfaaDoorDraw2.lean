/-
  How the laws draw lists of bits: what comes out, and what it leaves. Condition: fewer than 2^39 numbers were picked before.
-/
import Derived.Test.YtflplihhakepfaaDoorDraw1
namespace Go.Proofs.YtflplihhakepfaaDoor
open Go.RowKit

def OddPost (R p : Nat) (w : World) (e : Ending) (w' : World) : Prop :=
  ∃ b : Bool, e = .returned (.bool b) ∧ Rd w' R (p + 1) ∧ w.grownBy w' (some R)
set_option maxHeartbeats 400000 in
theorem odd_any (R p : Nat) (n : Int) (w : World) (hr : Rd w R p) (hp : p ≤ 1099511627776) (hn1 : 1 ≤ n) (hn2 : n ≤ 1099511627776) :
    Calls Tryd.prog 41 #[.pointer (some ⟨R, 0, none⟩), .int .i64 n] w (OddPost R p w) := by
  have hn0 : 0 < n := by omega
  go_enter Tryd.func41, Tryd.ntmps41
  go_wp2_with fail
  refine (pick_any R p n w hr hp hn1 hn2).mono ?_
  rintro e w1 ⟨v, ⟨hv0, hv1⟩, rfl, hr1, hg1⟩
  have HR := Lib.hid hr1
  have HG := Lib.hid hg1
  clear hr1 hg1 hr
  go_wp2
  go_ret
  exact ⟨_, rfl, HR.out, HG.out⟩

/-- The code, cut to 2000 bytes, in a new reader. -/
def OpenPost (w : World) (e : Ending) (w' : World) : Prop :=
  e = .returned (.pointer (some ⟨w.heap.size, 0, none⟩)) ∧ Rd w' w.heap.size 0 ∧ Below w.heap.size w w'
theorem Ints.take {k : IntKind} {w : World} {B m : Nat} {a : Option Addr} {xs : List Int} (h : Ints k w B a xs) : Ints k w B a (xs.take m) := fun hne => by
  have hne' : xs ≠ [] := by intro e; subst e; simp at hne
  obtain ⟨b, off, e, hb, hc⟩ := h hne'
  refine ⟨b, off, e, hb, fun i hi => ?_⟩
  have hi2 : i < m ∧ i < xs.length := by simpa [Nat.lt_min] using hi
  rw [hc i hi2.2]
  simp [el, hi2.1, hi2.2]
theorem rd_new {w : World} {ba : Option Addr} {bc : Nat} {ds : List Int} (h3 : ds.length ≤ 2000) (h4 : ∀ n ∈ ds, isByte n) (h5 : Ints .u8 w w.heap.size ba ds) :
    Rd (w.alloc (.cells #[.slice ba ds.length bc, .int .i64 0] 60)) w.heap.size 0 :=
  ⟨ba, _, bc, ds, heap_alloc_last _ _, rfl, h3, h4, h5.below ((Below.refl _ _).alloc (Nat.le_refl _) _)⟩
set_option maxHeartbeats 400000 in
theorem open_any (a : Option Addr) (c : Nat) (ds : List Int) (w : World) (hx : Ints .u8 w w.heap.size a ds) (hw : ∀ n ∈ ds, isByte n) (hc : ds.length ≤ c) (hl : ds.length ≤ maxLen) (hcm : c ≤ maxLen) :
    Calls Tryd.prog 33 #[.slice a ds.length c] w (OpenPost w) := by
  unfold maxLen at hl hcm
  by_cases h : ds.length ≤ 2000
  · have HR := Lib.hid (rd_new (bc := c) h hw hx)
    clear hx hw
    go_enter Tryd.func33, Tryd.ntmps33
    go_wp2
    go_ret
    exact ⟨rfl, HR.out, (Below.refl _ _).alloc (Nat.le_refl _) _⟩
  · obtain ⟨b, off, rfl, hb, hc0⟩ := hx.at_ (i := 0) (by omega)
    have hlen : (ds.take 2000).length = 2000 := by simp; omega
    have HR := Lib.hid (rd_new (bc := c) (ds := ds.take 2000) (by omega) (fun n hn => hw n (List.mem_of_mem_take hn)) hx.take)
    rw [hlen] at HR
    clear hx hw hlen hc0
    go_enter Tryd.func33, Tryd.ntmps33
    go_wp2
    go_ret
    exact ⟨rfl, HR.out, (Below.refl _ _).alloc (Nat.le_refl _) _⟩

theorem Grow.grownR {k : IntKind} {t : TypeId} {w w' : World} {base n cap R : Nat} {a : Option Addr} {xs : List Int} (h : Grow k t w base a n cap xs) (hg : w.grownBy w' (some R)) (hR : R < base) : Grow k t w' base a n cap xs :=
  h.keep fun b hb hlt => hg.block b hlt (fun e => by injection e; omega)
theorem grown_below {w a b : World} {R B : Nat} (h : w.grownBy a (some R)) (hb : Below B a b) (hB : w.heap.size ≤ B) : w.grownBy b (some R) :=
  ⟨hb.os.trans h.os, hb.tape.trans h.tape, hb.output.trans h.output, Nat.le_trans h.size hb.size, fun j hj hne => (hb.block j (by omega)).trans (h.block j hj hne)⟩
theorem grown_trans {w a b : World} {R : Nat} (h : w.grownBy a (some R)) (h' : a.grownBy b (some R)) : w.grownBy b (some R) :=
  ⟨h'.os.trans h.os, h'.tape.trans h.tape, h'.output.trans h.output, Nat.le_trans h.size h'.size, fun j hj hne => (h'.block j (Nat.lt_of_lt_of_le hj h.size) hne).trans (h.block j hj hne)⟩

/-- A number that a drawn list of bits may hold. -/
def small (x : Int) : Prop := -1 ≤ x ∧ x ≤ 2
/-- A drawn list: in memory of its own, its numbers small; only the reader was written besides. -/
def BitsPost (R p most : Nat) (w : World) (e : Ending) (w' : World) : Prop :=
  ∃ xs ad n cap p', e = .returned (.slice (some ad) n cap) ∧ n ≤ most + 1 ∧ (∀ x ∈ xs, small x) ∧ Grow .i64 3 w' w.heap.size (some ad) n cap xs ∧ Rd w' R p' ∧ p' ≤ p + 2 * most + 8 ∧ w.grownBy w' (some R)
/-- The state of the loop that draws bits: m are drawn, q are to be drawn. -/
def BitsRel (R p most : Nat) (w : World) (q m : Nat) (v : Option Addr) (cap : Nat) (wr : World) : Prop :=
  ∃ xs ad p', v = some ad ∧ q + m ≤ most ∧ (∀ x ∈ xs, small x) ∧ Grow .i64 3 wr w.heap.size v m cap xs ∧ Rd wr R p' ∧ p' ≤ p + 3 + 2 * m ∧ w.grownBy wr (some R)
theorem grown_alloc {w a : World} {R : Nat} (h : w.grownBy a (some R)) (o : Obj) : w.grownBy (a.alloc o) (some R) :=
  ⟨h.os, h.tape, h.output, Nat.le_trans h.size (by simp), fun j hj hne => (Below.heap_alloc a o j (Nat.lt_of_lt_of_le hj h.size)).trans (h.block j hj hne)⟩
theorem Rd.alloc {w : World} {R p : Nat} (h : Rd w R p) (o : Obj) : Rd (w.alloc o) R p := h.below ((Below.refl _ _).alloc (Nat.le_refl _) o) h.lt
theorem small_snoc {xs : List Int} {x : Int} (h : ∀ y ∈ xs, small y) (hx : small x) : ∀ y ∈ xs ++ [x], small y := fun y hy => by
  rcases List.mem_append.1 hy with hy | hy
  · exact h y hy
  · simp at hy; subst hy; exact hx
theorem Grow.addr {k : IntKind} {t : TypeId} {w : World} {base n cap : Nat} {a : Option Addr} {xs : List Int} (h : Grow k t w base a (n + 1) cap xs) : ∃ ad, a = some ad := by
  obtain ⟨b, f, e, _⟩ := h.row (by omega)
  exact ⟨_, e⟩
/-- One bit more is drawn. -/
theorem bitsRel_step {R p most : Nat} {w W w' : World} {q m cap' p' : Nat} {xs : List Int} {nw : Int} {a' : Option Addr} {o : Obj} (hq : 0 < q) (h1 : q + m ≤ most) (h2 : ∀ x ∈ xs, small x) (hnw : 0 ≤ nw ∧ nw < 2)
    (hr : Rd W R p') (hp : p' ≤ p + 3 + 2 * (m + 1)) (hg : w.grownBy W (some R)) (hR : R < w.heap.size)
    (hgr : Grow .i64 3 w' w.heap.size a' (m + 1) cap' (xs ++ [nw])) (hb : Below w.heap.size (W.alloc o) w') : BitsRel R p most w (q - 1) (m + 1) a' cap' w' := by
  obtain ⟨ad, e⟩ := hgr.addr
  exact ⟨_, ad, p', e, by omega, small_snoc h2 ⟨by omega, by omega⟩, hgr, (hr.alloc o).below hb hR, hp, grown_below (grown_alloc hg o) hb (Nat.le_refl _)⟩

end Go.Proofs.YtflplihhakepfaaDoor
