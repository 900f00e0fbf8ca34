/-
  Drawing numbers, bits, lists and generator polynomials, walked. No condition.
-/
import Derived.Test.YtnmhiagnmfpipaaPackBytes
import Derived.Test.YtnmhiagnmfpipaaGrow
import Derived.Test.YtnmhiagnmfpipaaOne
import Derived.Test.YtnmhiagnmfpipaaTwo
namespace Go.Proofs.Ytnmhiagnmfpipaa
open Go.RowKit

/-- Block R holds the reader: the bytes of the code, which lie in blocks before R, and the position p. -/
def Rd (w : World) (R p : Nat) : Prop :=
  ∃ ba bn bc ds, w.heap[R]? = some (.cells #[.slice ba bn bc, .int .i64 p] 70 (0, 0)) ∧ ds.length = bn ∧ bn ≤ 2000 ∧ (∀ n ∈ ds, isByte n) ∧ Ints .u8 w R ba ds
theorem Rd.lt {w : World} {R p : Nat} (h : Rd w R p) : R < w.heap.size := by
  obtain ⟨_, _, _, _, h1, _⟩ := h
  exact (Array.getElem?_eq_some_iff.1 h1).1
theorem Rd.below {w w' : World} {R p B : Nat} (h : Rd w R p) (hb : Below B w w') (hR : R < B) : Rd w' R p := by
  obtain ⟨ba, bn, bc, ds, h1, h2, h3, h4, h5⟩ := h
  exact ⟨ba, bn, bc, ds, (hb.block R hR).trans h1, h2, h3, h4, h5.below (hb.mono (by omega))⟩
theorem i64_xor (a b : Nat) (ha : a < 2 ^ 63) (hb : b < 2 ^ 63) : bits .xor .i64 (a : Int) (b : Int) = ((a ^^^ b : Nat) : Int) := by
  have hof : ∀ n : Nat, n < 2 ^ 63 → (BitVec.ofInt 64 (n : Int)).toNat = n := fun n hn => by
    rw [BitVec.ofInt_natCast, BitVec.toNat_ofNat]; exact Nat.mod_eq_of_lt (by omega)
  have hlt : a ^^^ b < 2 ^ 63 := Nat.xor_lt_two_pow ha hb
  show IntKind.i64.wrap ((BitVec.ofInt 64 (a : Int) ^^^ BitVec.ofInt 64 (b : Int)).toNat : Int) = _
  rw [BitVec.toNat_xor, hof a ha, hof b hb, IntKind.wrap_i64]
  generalize a ^^^ b = q at hlt
  omega
theorem i64_in' {n : Nat} (h : n < 2 ^ 63) : IntKind.i64.wrap (n : Int) = n := by rw [IntKind.wrap_i64]; omega
/-- What picking leaves. -/
def PickPost (R p : Nat) (n : Int) (w : World) (e : Ending) (w' : World) : Prop :=
  ∃ v : Int, (0 ≤ v ∧ v < n) ∧ e = .returned (.int .i64 v) ∧ Rd w' R (p + 1) ∧ w.grownBy w' (some R)
set_option maxRecDepth 10000 in
theorem rd_step {w : World} {R p bn bc : Nat} {ba : Option Addr} {ds : List Int} (h1 : w.heap[R]? = some (.cells #[.slice ba bn bc, .int .i64 p] 70 (0, 0))) (h2 : ds.length = bn) (h3 : bn ≤ 2000) (h4 : ∀ n ∈ ds, isByte n) (h5 : Ints .u8 w R ba ds) (m : Nat) :
    Rd ((w.setCell ⟨R, 1, none⟩ (.int .i64 ((p : Int) + 1))).drewN m) R (p + 1) ∧ w.grownBy ((w.setCell ⟨R, 1, none⟩ (.int .i64 ((p : Int) + 1))).drewN m) (some R) := by
  refine ⟨⟨ba, bn, bc, ds, ?_, h2, h3, h4, ?_⟩, ?_⟩
  · show (w.setCell _ _).heap[R]? = _
    rw [setCell_eq_setRow w R 1 _ _ _ _ h1, setRow_heap _ _ _ _ _ _ h1]
    rfl
  · exact h5.keep fun q hq => World.cell?_setCell_other w _ q _ (fun e => by subst e; simp at hq)
  · exact ⟨rfl, rfl, rfl, by simp [World.setCell, World.drewN], fun j _ hne => Below.heap_setCell _ _ _ _ (fun e => hne (by rw [e]))⟩

set_option maxRecDepth 10000 in
set_option maxHeartbeats 2000000 in
theorem pick_any (R p : Nat) (n : Int) (w : World) (hr : Rd w R p) (hp : p ≤ 1099511627776) (hn1 : 1 ≤ n) (hn2 : n ≤ 1099511627776) :
    Calls Try.prog 47 #[.pointer (some ⟨R, 0, none⟩), .int .i64 n] w (PickPost R p n w) := by
  obtain ⟨ba, bn, bc, ds, h1, h2, h3, h4, h5⟩ := hr
  have c0 : w.cell? ⟨R, 0, none⟩ = some (.slice ba bn bc) := cell_of_row _ _ _ _ _ _ h1
  have c1 : w.cell? ⟨R, 1, none⟩ = some (.int .i64 p) := cell_of_row _ _ _ _ _ _ h1
  have f1 : w.frozen? ⟨R, 1, none⟩ = false := by simp [World.frozen?, h1]
  have HS := Lib.hid (rd_step h1 h2 h3 h4 h5)
  have H2 := Lib.hid h2
  have H4 := Lib.hid h4
  have H5 := Lib.hid h5
  have hnl : ¬ n < 1 := by omega
  clear h1 h2 h4 h5
  by_cases hz : bn = 0
  · subst hz
    go_enter Try.func47, Try.ntmps47
    go_wp2
    go_ret
    exact ⟨0, ⟨by omega, by omega⟩, rfl, HS.out 0⟩
  · have hnz : ((bn : Int) == 0) = false := by simp; omega
    by_cases hk : p < bn
    · obtain ⟨b, off, rfl, hb, hc⟩ := H5.out.at_ (i := p) (by rw [H2.out]; exact hk)
      have hby := H4.out _ (el_mem (xs := ds) (i := p) (by rw [H2.out]; exact hk))
      obtain ⟨d, hd⟩ : ∃ d : Int, d = el ds p := ⟨_, rfl⟩
      rw [← hd] at hc hby
      have hb0 : 0 ≤ d := hby.1
      have hb1 : d < 256 := hby.2
      have hne : b ≠ R := by omega
      have hc' : ∀ x, (w.setCell ⟨R, 1, none⟩ x).cell? ⟨b, off + p, none⟩ = some (.int .u8 d) := fun x => by
        rw [World.cell?_setCell_other _ _ _ _ (fun e => hne (by injection e with e1; first | exact e1 | exact e1.symm))]; exact hc
      clear hd hby hc
      go_enter Try.func47, Try.ntmps47
      go_wp2
      go_ret
      exact ⟨d % n, ⟨Int.emod_nonneg _ (by omega), Int.emod_lt_of_pos _ (by omega)⟩, rfl, HS.out 0⟩
    · have hi1 : p % bn < bn := Nat.mod_lt _ (by omega)
      have hi2 : (p * 7 + 3) % bn < bn := Nat.mod_lt _ (by omega)
      obtain ⟨b, off, rfl, hb, hcc⟩ := H5.out (by intro e; have := H2.out; rw [e] at this; simp at this; omega)
      have hne : b ≠ R := by omega
      have hcell : ∀ i, i < bn → ∃ d : Nat, d < 256 ∧ ∀ x, (w.setCell ⟨R, 1, none⟩ x).cell? ⟨b, off + i, none⟩ = some (.int .u8 (d : Int)) := fun i hi => by
        have hby := H4.out _ (el_mem (xs := ds) (i := i) (by rw [H2.out]; exact hi))
        refine ⟨(el ds i).toNat, by have := hby.1; have := hby.2; omega, fun x => ?_⟩
        rw [World.cell?_setCell_other _ _ _ _ (fun e => hne (by injection e with e1; first | exact e1 | exact e1.symm)), hcc i (by rw [H2.out]; exact hi)]
        congr 2
        have := hby.1; omega
      obtain ⟨d1, hd1, hc1⟩ := hcell _ hi1
      obtain ⟨d2, hd2, hc2⟩ := hcell _ hi2
      clear hcc hcell
      have hkb : decide ((p : Int) < (bn : Int)) = false := by simp; omega
      obtain ⟨i1, ei1⟩ : ∃ i1 : Nat, i1 = p % bn := ⟨_, rfl⟩
      obtain ⟨i2, ei2⟩ : ∃ i2 : Nat, i2 = (p * 7 + 3) % bn := ⟨_, rfl⟩
      rw [← ei1] at hi1 hc1
      rw [← ei2] at hi2 hc2
      obtain ⟨m1, e1⟩ : ∃ m : Nat, m = d1 * 131 := ⟨_, rfl⟩
      obtain ⟨m7, e7⟩ : ∃ m : Nat, m = p * 7 := ⟨_, rfl⟩
      obtain ⟨s3, e3⟩ : ∃ m : Nat, m = m7 + 3 := ⟨_, rfl⟩
      obtain ⟨m2, e2⟩ : ∃ m : Nat, m = d2 * 1117 := ⟨_, rfl⟩
      obtain ⟨s4, e4⟩ : ∃ m : Nat, m = m1 + m2 := ⟨_, rfl⟩
      obtain ⟨m29, e29⟩ : ∃ m : Nat, m = p * 29 := ⟨_, rfl⟩
      obtain ⟨s5, e5⟩ : ∃ m : Nat, m = s4 + m29 := ⟨_, rfl⟩
      obtain ⟨q, eq⟩ : ∃ m : Nat, m = p / bn := ⟨_, rfl⟩
      have hq : q ≤ p := by rw [eq]; exact Nat.div_le_self _ _
      obtain ⟨m53, e53⟩ : ∃ m : Nat, m = q * 53 := ⟨_, rfl⟩
      obtain ⟨x, ex⟩ : ∃ m : Nat, m = s5 + m53 := ⟨_, rfl⟩
      have hx : x < 4611686018427387904 := by omega
      have r1 : (p : Int).tmod (bn : Int) = (i1 : Int) := by rw [Int.tmod_eq_emod_of_nonneg (by omega), ei1]; rfl
      have r2 : IntKind.i64.wrap ((d1 : Int) * 131) = (m1 : Int) := by rw [IntKind.wrap_i64]; omega
      have r3 : IntKind.i64.wrap ((p : Int) * 7) = (m7 : Int) := by rw [IntKind.wrap_i64]; omega
      have r4 : IntKind.i64.wrap ((m7 : Int) + 3) = (s3 : Int) := by rw [IntKind.wrap_i64]; omega
      have r5 : (s3 : Int).tmod (bn : Int) = (i2 : Int) := by rw [Int.tmod_eq_emod_of_nonneg (by omega), ei2, ← e7, ← e3]; rfl
      have r6 : IntKind.i64.wrap ((d2 : Int) * 1117) = (m2 : Int) := by rw [IntKind.wrap_i64]; omega
      have r7 : IntKind.i64.wrap ((m1 : Int) + (m2 : Int)) = (s4 : Int) := by rw [IntKind.wrap_i64]; omega
      have r8 : IntKind.i64.wrap ((p : Int) * 29) = (m29 : Int) := by rw [IntKind.wrap_i64]; omega
      have r9 : IntKind.i64.wrap ((s4 : Int) + (m29 : Int)) = (s5 : Int) := by rw [IntKind.wrap_i64]; omega
      have r11 : IntKind.i64.wrap ((q : Int) * 53) = (m53 : Int) := by rw [IntKind.wrap_i64]; omega
      have r12 : IntKind.i64.wrap ((s5 : Int) + (m53 : Int)) = (x : Int) := by rw [IntKind.wrap_i64]; omega
      have hx63 : x < 2 ^ 63 := by omega
      have hx64 : x / 64 < 2 ^ 63 := by omega
      have hq63 : q < 2 ^ 63 := by omega
      obtain ⟨y, ey⟩ : ∃ y : Nat, y = x ^^^ x / 64 := ⟨_, rfl⟩
      have r13 : bits .xor .i64 (x : Int) ((x : Int) / 64) = (y : Int) := by
        rw [ey, show (x : Int) / 64 = ((x / 64 : Nat) : Int) from rfl]; exact i64_xor x (x / 64) hx63 hx64
      have r10 : IntKind.i64.wrap ((p : Int).tdiv (bn : Int)) = (q : Int) := by
        rw [Int.tdiv_eq_ediv_of_nonneg (by omega), show (p : Int) / (bn : Int) = ((p / bn : Nat) : Int) from rfl, ← eq]; exact i64_in' hq63
      have r10' : wrap64 ((p : Int) / (bn : Int)) = (q : Int) := by
        rw [show (p : Int) / (bn : Int) = ((p / bn : Nat) : Int) from rfl, ← eq]; exact wrap64_in hq63
      clear hx63 hx64 hq63
      clear ei1 ei2 e1 e7 e3 e2 e4 e29 e5 eq e53 ex ey
      go_enter Try.func47, Try.ntmps47
      go_wp2
      go_quiet (fail)
      clear r1 r2 r3 r4 r5 r6 r7 r8 r9 r10 r10' r11 r12
      go_wp2
      go_ret
      exact ⟨(y : Int) % n, ⟨Int.emod_nonneg _ (by omega), Int.emod_lt_of_pos _ (by omega)⟩, rfl, HS.out _⟩

def OddPost (R p : Nat) (w : World) (e : Ending) (w' : World) : Prop :=
  ∃ b : Bool, e = .returned (.bool b) ∧ Rd w' R (p + 1) ∧ w.grownBy w' (some R)
set_option maxRecDepth 10000 in
set_option maxHeartbeats 400000 in
theorem odd_any (R p : Nat) (n : Int) (w : World) (hr : Rd w R p) (hp : p ≤ 1099511627776) (hn1 : 1 ≤ n) (hn2 : n ≤ 1099511627776) :
    Calls Try.prog 62 #[.pointer (some ⟨R, 0, none⟩), .int .i64 n] w (OddPost R p w) := by
  have hn0 : 0 < n := by omega
  go_enter Try.func62, Try.ntmps62
  go_wp2_with fail
  refine (pick_any R p n w hr hp hn1 hn2).mono ?_
  rintro e w1 ⟨v, ⟨hv0, hv1⟩, rfl, hr1, hg1⟩
  have HR := Lib.hid hr1
  have HG := Lib.hid hg1
  clear hr1 hg1 hr
  go_wp2
  go_ret
  exact ⟨_, rfl, HR.out, HG.out⟩

/-- The code, cut to 2000 bytes, in a new reader. -/
def OpenPost (w : World) (e : Ending) (w' : World) : Prop :=
  e = .returned (.pointer (some ⟨w.heap.size, 0, none⟩)) ∧ Rd w' w.heap.size 0 ∧ Below w.heap.size w w'
theorem Ints.take {k : IntKind} {w : World} {B m : Nat} {a : Option Addr} {xs : List Int} (h : Ints k w B a xs) : Ints k w B a (xs.take m) := fun hne => by
  have hne' : xs ≠ [] := by intro e; subst e; simp at hne
  obtain ⟨b, off, e, hb, hc⟩ := h hne'
  refine ⟨b, off, e, hb, fun i hi => ?_⟩
  have hi2 : i < m ∧ i < xs.length := by simpa [Nat.lt_min] using hi
  rw [hc i hi2.2]
  simp [el, hi2.1, hi2.2]
theorem rd_new {w : World} {ba : Option Addr} {bc : Nat} {ds : List Int} (h3 : ds.length ≤ 2000) (h4 : ∀ n ∈ ds, isByte n) (h5 : Ints .u8 w w.heap.size ba ds) :
    Rd (w.alloc (.cells #[.slice ba ds.length bc, .int .i64 0] 70)) w.heap.size 0 :=
  ⟨ba, _, bc, ds, heap_alloc_last _ _, rfl, h3, h4, h5.below ((Below.refl _ _).alloc (Nat.le_refl _) _)⟩
set_option maxRecDepth 10000 in
set_option maxHeartbeats 400000 in
theorem open_any (a : Option Addr) (c : Nat) (ds : List Int) (w : World) (hx : Ints .u8 w w.heap.size a ds) (hw : ∀ n ∈ ds, isByte n) (hc : ds.length ≤ c) (hl : ds.length ≤ maxLen) (hcm : c ≤ maxLen) :
    Calls Try.prog 43 #[.slice a ds.length c] w (OpenPost w) := by
  unfold maxLen at hl hcm
  by_cases h : ds.length ≤ 2000
  · have HR := Lib.hid (rd_new (bc := c) h hw hx)
    clear hx hw
    go_enter Try.func43, Try.ntmps43
    go_wp2
    go_ret
    exact ⟨rfl, HR.out, (Below.refl _ _).alloc (Nat.le_refl _) _⟩
  · obtain ⟨b, off, rfl, hb, hc0⟩ := hx.at_ (i := 0) (by omega)
    have hlen : (ds.take 2000).length = 2000 := by simp; omega
    have HR := Lib.hid (rd_new (bc := c) (ds := ds.take 2000) (by omega) (fun n hn => hw n (List.mem_of_mem_take hn)) hx.take)
    rw [hlen] at HR
    clear hx hw hlen hc0
    go_enter Try.func43, Try.ntmps43
    go_wp2
    go_ret
    exact ⟨rfl, HR.out, (Below.refl _ _).alloc (Nat.le_refl _) _⟩

theorem Grow.grownR {k : IntKind} {t : TypeId} {w w' : World} {base n cap R : Nat} {a : Option Addr} {xs : List Int} (h : Grow k t w base a n cap xs) (hg : w.grownBy w' (some R)) (hR : R < base) : Grow k t w' base a n cap xs :=
  h.keep fun b hb hlt => hg.block b hlt (fun e => by injection e; omega)
theorem grown_below {w a b : World} {R B : Nat} (h : w.grownBy a (some R)) (hb : Below B a b) (hB : w.heap.size ≤ B) : w.grownBy b (some R) :=
  ⟨hb.os.trans h.os, hb.tape.trans h.tape, hb.output.trans h.output, Nat.le_trans h.size hb.size, fun j hj hne => (hb.block j (by omega)).trans (h.block j hj hne)⟩
theorem grown_trans {w a b : World} {R : Nat} (h : w.grownBy a (some R)) (h' : a.grownBy b (some R)) : w.grownBy b (some R) :=
  ⟨h'.os.trans h.os, h'.tape.trans h.tape, h'.output.trans h.output, Nat.le_trans h.size h'.size, fun j hj hne => (h'.block j (Nat.lt_of_lt_of_le hj h.size) hne).trans (h.block j hj hne)⟩

/-- A number that a drawn list of bits may hold. -/
def small (x : Int) : Prop := -1 ≤ x ∧ x ≤ 2
/-- A drawn list: in memory of its own, its numbers small; only the reader was written besides. -/
def BitsPost (R p most : Nat) (w : World) (e : Ending) (w' : World) : Prop :=
  ∃ xs ad n cap p', e = .returned (.slice (some ad) n cap) ∧ n ≤ most + 1 ∧ (∀ x ∈ xs, small x) ∧ Grow .i64 3 w' w.heap.size (some ad) n cap xs ∧ Rd w' R p' ∧ p' ≤ p + 2 * most + 8 ∧ w.grownBy w' (some R)
/-- The state of the loop that draws bits: m are drawn, q are to be drawn. -/
def BitsRel (R p most : Nat) (w : World) (q m : Nat) (v : Option Addr) (cap : Nat) (wr : World) : Prop :=
  ∃ xs ad p', v = some ad ∧ q + m ≤ most ∧ (∀ x ∈ xs, small x) ∧ Grow .i64 3 wr w.heap.size v m cap xs ∧ Rd wr R p' ∧ p' ≤ p + 3 + 2 * m ∧ w.grownBy wr (some R)
theorem grown_alloc {w a : World} {R : Nat} (h : w.grownBy a (some R)) (o : Obj) : w.grownBy (a.alloc o) (some R) :=
  ⟨h.os, h.tape, h.output, Nat.le_trans h.size (by simp), fun j hj hne => (Below.heap_alloc a o j (Nat.lt_of_lt_of_le hj h.size)).trans (h.block j hj hne)⟩
theorem Rd.alloc {w : World} {R p : Nat} (h : Rd w R p) (o : Obj) : Rd (w.alloc o) R p := h.below ((Below.refl _ _).alloc (Nat.le_refl _) o) h.lt
theorem small_snoc {xs : List Int} {x : Int} (h : ∀ y ∈ xs, small y) (hx : small x) : ∀ y ∈ xs ++ [x], small y := fun y hy => by
  rcases List.mem_append.1 hy with hy | hy
  · exact h y hy
  · simp at hy; subst hy; exact hx
theorem Grow.addr {k : IntKind} {t : TypeId} {w : World} {base n cap : Nat} {a : Option Addr} {xs : List Int} (h : Grow k t w base a (n + 1) cap xs) : ∃ ad, a = some ad := by
  obtain ⟨b, f, e, _⟩ := h.row (by omega)
  exact ⟨_, e⟩
set_option maxRecDepth 10000 in
/-- One bit more is drawn. -/
theorem bitsRel_step {R p most : Nat} {w W w' : World} {q m cap' p' : Nat} {xs : List Int} {nw : Int} {a' : Option Addr} {o : Obj} (hq : 0 < q) (h1 : q + m ≤ most) (h2 : ∀ x ∈ xs, small x) (hnw : 0 ≤ nw ∧ nw < 2)
    (hr : Rd W R p') (hp : p' ≤ p + 3 + 2 * (m + 1)) (hg : w.grownBy W (some R)) (hR : R < w.heap.size)
    (hgr : Grow .i64 3 w' w.heap.size a' (m + 1) cap' (xs ++ [nw])) (hb : Below w.heap.size (W.alloc o) w') : BitsRel R p most w (q - 1) (m + 1) a' cap' w' := by
  obtain ⟨ad, e⟩ := hgr.addr
  exact ⟨_, ad, p', e, by omega, small_snoc h2 ⟨by omega, by omega⟩, hgr, (hr.alloc o).below hb hR, hp, grown_below (grown_alloc hg o) hb (Nat.le_refl _)⟩

section
variable {w : World} {ops : Array Oper} {rest : List Oper} {o : Oper} {a : Act} {Q : Exit → Act → World → Prop}
set_option maxRecDepth 10000 in
theorem wpList_appendS (s x : Operand) (base : Nat) (A : Option Addr) (n cap : Nat) (xs ys : List Int) (ad : Addr) (m c B : Nat)
    (hgd : o.guard = none) (ho : o.op = .call { callee := .builtin .append, args := #[s, x], argTypes := #[27, 27] }) (hs : a.eval s = .slice A n cap) (hx : a.eval x = .slice (some ad) m c)
    (hg : Grow .i64 3 w base A n cap xs) (hy : Ints .i64 w B (some ad) ys) (hm : ys.length = m) (hn : n + m < 1099511627776) (hb : base ≤ w.heap.size)
    (h : ∀ a' cap' w', Grow .i64 3 w' base a' (n + m) cap' (xs ++ ys) → Below base w w' → a' ≠ none ∨ A = none → wpList Try.prog ops Q rest (a.put o.dst (.slice a' (n + m) cap')) w') : wpList Try.prog ops Q (o :: rest) a w := by
  obtain ⟨i0, hi0, hz0, hz1, hz2⟩ := info_parts Try.infoInt
  refine wpList_append_own w hgd s x _ ho base 3 i0 (.int .i64 0) 1 8 Try.underlying27 hi0 hz0 hz1 hz2 rfl (by omega) _ n _ hs hg ad m c (ys.map (Value.int .i64)) hx (by simp [hm]) ?_ (ints_oneCell _ _) (by unfold maxLen; omega) (by omega) hb ?_
  · intro j u hj
    have hjl : j < ys.length := by have := (List.getElem?_eq_some_iff.1 hj).1; simpa using this
    obtain ⟨b, off, e, _, hc⟩ := hy.at_ hjl
    injection e with e
    subst e
    have hadd : (⟨b, off, none⟩ : Addr).add j = ⟨b, off + j, none⟩ := by unfold Addr.add; split <;> simp_all
    rw [hadd, hc]
    simp [hjl] at hj
    rw [← hj, el_lt hjl]
  · intro v' w' h2 h3 h4
    have hlen : (xs.map (Value.int .i64) ++ ys.map (Value.int .i64)) = (xs ++ ys).map (Value.int .i64) := by simp
    rw [hlen] at h2
    have hsh : ∃ a' cap', v' = .slice a' (n + m) cap' := by
      rcases h2.2 with ⟨e, h0⟩ | ⟨g, c', cur, e, _⟩
      · exact ⟨none, 0, by rw [e, h0]⟩
      · exact ⟨_, _, e⟩
    obtain ⟨a', cap', rfl⟩ := hsh
    refine h a' cap' w' h2 ((Below.refl _ _).grown h3 hb hg.own) ?_
    by_cases hA : A = none
    · exact .inr hA
    · refine .inl fun e => ?_
      subst e
      rcases h2.2 with ⟨e, h0⟩ | ⟨g, c', cur, e, _⟩
      · have := (h4.1 e).1
        injection this with e1
        exact hA e1
      · injection e with e1; cases e1
end
theorem Grow.set {k : IntKind} {t : TypeId} {w : World} {base n cap b : Nat} {xs : List Int} (h : Grow k t w base (some ⟨b, 0, none⟩) n cap xs) (j : Nat) (v : Int) :
    Grow k t (w.setCell ⟨b, j, none⟩ (.int k v)) base (some ⟨b, 0, none⟩) n cap (xs.set j v) := by
  have := World.ownsRow.stored h j (.int k v)
  rw [← List.map_set] at this
  exact this.1
theorem Grow.addr0 {k : IntKind} {t : TypeId} {w : World} {base n cap : Nat} {a : Option Addr} {xs : List Int} (h : Grow k t w base a n cap xs) (hne : a ≠ none) : ∃ b, a = some ⟨b, 0, none⟩ ∧ base ≤ b := by
  rcases h.2 with ⟨e, _⟩ | ⟨g, c, cur, e, hg, _⟩
  · injection e with e1; exact absurd e1 hne
  · injection e with e1; exact ⟨g, e1, hg⟩
theorem small_set {xs : List Int} {x : Int} {j : Nat} (h : ∀ y ∈ xs, small y) (hx : small x) : ∀ y ∈ xs.set j x, small y := fun y hy => by
  rcases List.mem_or_eq_of_mem_set hy with hy | rfl
  · exact h y hy
  · exact hx

/-- Two drawn lists; only the reader was written besides. -/
def TwinPost (R most : Nat) (w : World) (e : Ending) (w' : World) : Prop :=
  ∃ xs ys a b c c', e = .returned (.tuple #[.slice a xs.length c, .slice b ys.length c']) ∧ xs.length ≤ most + 1 ∧ ys.length ≤ most + 1 ∧ (∀ x ∈ xs, small x) ∧ (∀ x ∈ ys, small x) ∧
    Ints .i64 w' w'.heap.size a xs ∧ Ints .i64 w' w'.heap.size b ys ∧ w.grownBy w' (some R)
def TwinRel (R p most n cap b : Nat) (w w1 : World) (k : Nat) (wr : World) : Prop :=
  ∃ ys p', (∀ x ∈ ys, small x) ∧ Grow .i64 3 wr w1.heap.size (some ⟨b, 0, none⟩) n cap ys ∧ Rd wr R p' ∧ p' ≤ p + 2 * most + 8 + 2 * k ∧ w.grownBy wr (some R) ∧ (∀ j, j < w1.heap.size → j ≠ R → wr.heap[j]? = w1.heap[j]?)
theorem ints_other {k : IntKind} {w1 wr : World} {R B : Nat} {a : Option Addr} {xs : List Int} {base n cap t : Nat} (h : Grow k t w1 base a n cap xs) (hR : R < base) (hk : ∀ j, j < w1.heap.size → j ≠ R → wr.heap[j]? = w1.heap[j]?) (hB : w1.heap.size ≤ B) : Ints k wr B a xs := fun hne => by
  have hlen := h.len
  have hp : 0 < n := by rw [← hlen]; exact List.length_pos_iff.2 hne
  obtain ⟨b, f, rfl, h1, hb, hc, hr, hf⟩ := h.row hp
  exact ⟨b, 0, rfl, by omega, fun i hi => by rw [Nat.zero_add, (hr.of_block (hk b hb (by omega))).cell (by omega), hf i (by omega)]⟩

theorem twin_size {k : IntKind} {t : TypeId} {w : World} {base n cap b : Nat} {xs : List Int} (h : Grow k t w base (some ⟨b, 0, none⟩) n cap xs) (_hb : base ≤ b) : base ≤ w.heap.size := by
  rcases h.2 with ⟨e, _⟩ | ⟨g, c, cur, e, hg, hh, _⟩
  · injection e with e1; cases e1
  · have := (Array.getElem?_eq_some_iff.1 hh).1; omega
theorem twin_lt {k : IntKind} {t : TypeId} {w : World} {base n cap b m j : Nat} {xs : List Int} (h : Grow k t w base (some ⟨b, 0, none⟩) n cap xs) (_ : m < n) (hj : j < base) (hb : base ≤ b) : j < w.heap.size := by
  have := twin_size h hb; omega
theorem grow_cell {k : IntKind} {t : TypeId} {w : World} {base n cap b i : Nat} {xs : List Int} (h : Grow k t w base (some ⟨b, 0, none⟩) n cap xs) (hi : i < n) : (∃ u, w.cell? ⟨b, i, none⟩ = some (.int k u)) ∧ w.frozen? ⟨b, i, none⟩ = false := by
  obtain ⟨b', f, e, _, _, hc, hr, hf⟩ := h.row (by omega)
  injection e with e
  injection e with e
  subst e
  exact ⟨⟨_, by rw [hr.cell (by omega), hf i hi]⟩, hr.frozen i⟩
set_option maxRecDepth 10000 in
theorem twin_step {R p most n cap b : Nat} {w w1 w5 : World} {k p' : Nat} {ys : List Int} {v : Int} (hs : ∀ x ∈ ys, small x) (hg : Grow .i64 3 w5 w1.heap.size (some ⟨b, 0, none⟩) n cap ys) (hr : Rd w5 R p') (hp : p' ≤ p + 2 * most + 8 + 2 * (k + 1))
    (hn : w.grownBy w5 (some R)) (hk : ∀ j, j < w1.heap.size → j ≠ R → w5.heap[j]? = w1.heap[j]?) (hR : R < w.heap.size) (hw : w.heap.size ≤ w1.heap.size) (hb : w1.heap.size ≤ b) (hv : small v) :
    TwinRel R p most n cap b w w1 (k + 1) (w5.setCell ⟨b, k, none⟩ (.int .i64 v)) := by
  have hbel : Below w1.heap.size w5 (w5.setCell ⟨b, k, none⟩ (.int .i64 v)) := (Below.refl _ _).setCell hb _
  exact ⟨_, p', small_set hs hv, hg.set k v, hr.below hbel (by omega), hp, grown_below hn hbel hw, fun j hj hne => (hbel.block j hj).trans (hk j hj hne)⟩

/-- A slice that came in, with its capacity. -/
theorem ints_of_open2 {k : IntKind} {w : World} {a : Option Addr} {len cap : Nat} {zs : List Int}
    (h : (a = none ∧ len = 0 ∧ cap = 0 ∧ zs = []) ∨
      ∃ x, a = some x ∧ len ≤ cap ∧ cap ≤ maxLen ∧ zs.length = cap ∧ (∀ i, i < zs.length → w.cell? (x.add i) = some (.int k (zs.getD i 0))) ∧ ∀ n ∈ zs, (Lit.int k n).wf = true) :
    ∃ xs : List Int, xs.length = len ∧ Ints k w w.heap.size a xs ∧ (∀ n ∈ xs, (Lit.int k n).wf = true) ∧ xs.length ≤ cap ∧ cap ≤ maxLen := by
  have hc : len ≤ cap ∧ cap ≤ maxLen := by
    rcases h with ⟨_, rfl, rfl, _⟩ | ⟨_, _, h1, h2, _⟩
    · exact ⟨Nat.le_refl _, by unfold maxLen; omega⟩
    · exact ⟨h1, h2⟩
  obtain ⟨xs, h1, h2, h3⟩ := ints_of_open h
  exact ⟨xs, h1, h2, h3, by omega, hc.2⟩

def TwoPost (w : World) (e : Ending) (w' : World) : Prop :=
  ∃ xs ys a b c c', e = .returned (.tuple #[.slice a xs.length c, .slice b ys.length c']) ∧ xs.length ≤ 21 ∧ ys.length ≤ 21 ∧ (∀ x ∈ xs, small x) ∧ (∀ x ∈ ys, small x) ∧
    Ints .i64 w' w'.heap.size a xs ∧ Ints .i64 w' w'.heap.size b ys ∧ Below w.heap.size w w'
theorem dist_10 : distOr [1] [0] = 1 := by decide +kernel
theorem ints_one {w : World} {b : Nat} {t : TypeId} {x : Int} (h : w.heap[b]? = some (.cells #[.int .i64 x] t (0, 0))) (hb : b < w.heap.size) : Ints .i64 w w.heap.size (some ⟨b, 0, none⟩) [x] := fun _ =>
  ⟨b, 0, rfl, hb, fun i hi => by
    have h0 : i = 0 := by simp at hi; exact hi
    subst h0
    rw [cell_of_row _ _ _ _ _ _ h]; rfl⟩
set_option maxRecDepth 10000 in
set_option maxHeartbeats 400000 in
theorem alive_any (w : World) : Calls Try.prog 18 #[] w fun e w' => e = .returned (.bool true) ∧ Below w.heap.size w w' := by
  go_enter Try.func18, Try.ntmps18
  go_wp2_with fail
  refine (hamming_any _ _ 1 1 _ _ [1] [0] _ (ints_one (heap_prev2 w _ _) (by simp; omega)) (ints_one (heap_last2 w _ _) (by simp)) (Nat.le_refl _) (Nat.le_refl _)).mono ?_
  rintro e w1 ⟨rfl, b1⟩
  have B1 := Lib.hid (after2 b1).2.2.2
  have hd : (distOr [1] [0] == 1) = true := by rw [dist_10]; rfl
  clear b1
  go_wp2
  go_ret
  exact ⟨rfl, B1.out⟩

set_option maxRecDepth 10000 in
theorem oddZ_any (R : Nat) (w : World) : Calls Try.prog 62 #[.pointer (some ⟨R, 0, none⟩), .int .i64 0] w fun e w' => e = .returned (.bool false) ∧ w = w' := by
  go_enter Try.func62, Try.ntmps62
  go_wp2
  go_ret
  exact ⟨rfl, rfl⟩
/-- What drawing a generator polynomial leaves. -/
def GenPost (R p : Nat) (w : World) (e : Ending) (w' : World) : Prop :=
  ∃ g : Int, (-10 ≤ g ∧ g ≤ 131073) ∧ e = .returned (.int .i64 g) ∧ ∃ p', p' ≤ p + 3 ∧ Rd w' R p' ∧ w.grownBy w' (some R)
theorem cell_grown {w w' : World} {b R i : Nat} {cs : Array Value} {t : TypeId} (hg : (w.alloc (.cells cs t)).grownBy w' (some R)) (hb : b = w.heap.size) (hR : R < w.heap.size) : w'.cell? ⟨b, i, none⟩ = cs[i]? := by
  subst hb
  rw [World.cell?_of_block (hg.block w.heap.size (by simp) (fun e => by injection e; omega)), cell_of_row _ _ _ _ _ _ (heap_alloc_last w _)]
/-- A drawn number. -/
def NumPost (w : World) (e : Ending) (w' : World) : Prop :=
  ∃ g : Int, (-1000000 ≤ g ∧ g ≤ 1000000) ∧ e = .returned (.int .i64 g) ∧ Below w.heap.size w w'
theorem below_R {w w1 w2 : World} (h : Below w.heap.size w w1) (g : w1.grownBy w2 (some w.heap.size)) : Below w.heap.size w w2 := h.grown g h.size (fun k e => by injection e; omega)
end Go.Proofs.Ytnmhiagnmfpipaa
