/-
  The reader of a code, as the laws draw their inputs: what opening it and picking a number answer. Conditions: the number asked for is positive and below 2^40; fewer than 2^40 numbers were picked before.
-/
import Derived.Test.YtflplihhakepfaaDoorPackBytes
import Derived.Test.YtflplihhakepfaaDoorGrow
import Derived.Test.YtflplihhakepfaaDoorOwn
import Derived.Test.YtflplihhakepfaaDoorExact3
namespace Go.Proofs.YtflplihhakepfaaDoor
open Go.RowKit

/-- Block R holds the reader: the bytes of the code, which lie in blocks before R, and the position p. -/
def Rd (w : World) (R p : Nat) : Prop :=
  ∃ ba bn bc ds, w.heap[R]? = some (.cells #[.slice ba bn bc, .int .i64 p] 60 (0, 0)) ∧ ds.length = bn ∧ bn ≤ 2000 ∧ (∀ n ∈ ds, isByte n) ∧ Ints .u8 w R ba ds
theorem Rd.lt {w : World} {R p : Nat} (h : Rd w R p) : R < w.heap.size := by
  obtain ⟨_, _, _, _, h1, _⟩ := h
  exact (Array.getElem?_eq_some_iff.1 h1).1
theorem Rd.below {w w' : World} {R p B : Nat} (h : Rd w R p) (hb : Below B w w') (hR : R < B) : Rd w' R p := by
  obtain ⟨ba, bn, bc, ds, h1, h2, h3, h4, h5⟩ := h
  exact ⟨ba, bn, bc, ds, (hb.block R hR).trans h1, h2, h3, h4, h5.below (hb.mono (by omega))⟩
theorem i64_xor (a b : Nat) (ha : a < 2 ^ 63) (hb : b < 2 ^ 63) : bits .xor .i64 (a : Int) (b : Int) = ((a ^^^ b : Nat) : Int) := by
  have hof : ∀ n : Nat, n < 2 ^ 63 → (BitVec.ofInt 64 (n : Int)).toNat = n := fun n hn => by
    rw [BitVec.ofInt_natCast, BitVec.toNat_ofNat]; exact Nat.mod_eq_of_lt (by omega)
  have hlt : a ^^^ b < 2 ^ 63 := Nat.xor_lt_two_pow ha hb
  show IntKind.i64.wrap ((BitVec.ofInt 64 (a : Int) ^^^ BitVec.ofInt 64 (b : Int)).toNat : Int) = _
  rw [BitVec.toNat_xor, hof a ha, hof b hb, IntKind.wrap_i64]
  generalize a ^^^ b = q at hlt
  omega
theorem i64_in' {n : Nat} (h : n < 2 ^ 63) : IntKind.i64.wrap (n : Int) = n := by rw [IntKind.wrap_i64]; omega
/-- What picking leaves. -/
def PickPost (R p : Nat) (n : Int) (w : World) (e : Ending) (w' : World) : Prop :=
  ∃ v : Int, (0 ≤ v ∧ v < n) ∧ e = .returned (.int .i64 v) ∧ Rd w' R (p + 1) ∧ w.grownBy w' (some R)
theorem rd_step {w : World} {R p bn bc : Nat} {ba : Option Addr} {ds : List Int} (h1 : w.heap[R]? = some (.cells #[.slice ba bn bc, .int .i64 p] 60 (0, 0))) (h2 : ds.length = bn) (h3 : bn ≤ 2000) (h4 : ∀ n ∈ ds, isByte n) (h5 : Ints .u8 w R ba ds) (m : Nat) :
    Rd ((w.setCell ⟨R, 1, none⟩ (.int .i64 ((p : Int) + 1))).drewN m) R (p + 1) ∧ w.grownBy ((w.setCell ⟨R, 1, none⟩ (.int .i64 ((p : Int) + 1))).drewN m) (some R) := by
  refine ⟨⟨ba, bn, bc, ds, ?_, h2, h3, h4, ?_⟩, ?_⟩
  · show (w.setCell _ _).heap[R]? = _
    rw [setCell_eq_setRow w R 1 _ _ _ _ h1, setRow_heap _ _ _ _ _ _ h1]
    rfl
  · exact h5.keep fun q hq => World.cell?_setCell_other w _ q _ (fun e => by subst e; simp at hq)
  · exact ⟨rfl, rfl, rfl, by simp [World.setCell, World.drewN], fun j _ hne => Below.heap_setCell _ _ _ _ (fun e => hne (by rw [e]))⟩

set_option maxHeartbeats 2000000 in
theorem pick_any (R p : Nat) (n : Int) (w : World) (hr : Rd w R p) (hp : p ≤ 1099511627776) (hn1 : 1 ≤ n) (hn2 : n ≤ 1099511627776) :
    Calls Tryd.prog 42 #[.pointer (some ⟨R, 0, none⟩), .int .i64 n] w (PickPost R p n w) := by
  obtain ⟨ba, bn, bc, ds, h1, h2, h3, h4, h5⟩ := hr
  have c0 : w.cell? ⟨R, 0, none⟩ = some (.slice ba bn bc) := cell_of_row _ _ _ _ _ _ h1
  have c1 : w.cell? ⟨R, 1, none⟩ = some (.int .i64 p) := cell_of_row _ _ _ _ _ _ h1
  have f1 : w.frozen? ⟨R, 1, none⟩ = false := by simp [World.frozen?, h1]
  have HS := Lib.hid (rd_step h1 h2 h3 h4 h5)
  have H2 := Lib.hid h2
  have H4 := Lib.hid h4
  have H5 := Lib.hid h5
  have hnl : ¬ n < 1 := by omega
  clear h1 h2 h4 h5
  by_cases hz : bn = 0
  · subst hz
    go_enter Tryd.func42, Tryd.ntmps42
    go_wp2
    go_ret
    exact ⟨0, ⟨by omega, by omega⟩, rfl, HS.out 0⟩
  · have hnz : ((bn : Int) == 0) = false := by simp; omega
    by_cases hk : p < bn
    · obtain ⟨b, off, rfl, hb, hc⟩ := H5.out.at_ (i := p) (by rw [H2.out]; exact hk)
      have hby := H4.out _ (el_mem (xs := ds) (i := p) (by rw [H2.out]; exact hk))
      obtain ⟨d, hd⟩ : ∃ d : Int, d = el ds p := ⟨_, rfl⟩
      rw [← hd] at hc hby
      have hb0 : 0 ≤ d := hby.1
      have hb1 : d < 256 := hby.2
      have hne : b ≠ R := by omega
      have hc' : ∀ x, (w.setCell ⟨R, 1, none⟩ x).cell? ⟨b, off + p, none⟩ = some (.int .u8 d) := fun x => by
        rw [World.cell?_setCell_other _ _ _ _ (fun e => hne (by injection e with e1; first | exact e1 | exact e1.symm))]; exact hc
      clear hd hby hc
      go_enter Tryd.func42, Tryd.ntmps42
      go_wp2
      go_ret
      exact ⟨d % n, ⟨Int.emod_nonneg _ (by omega), Int.emod_lt_of_pos _ (by omega)⟩, rfl, HS.out 0⟩
    · have hi1 : p % bn < bn := Nat.mod_lt _ (by omega)
      have hi2 : (p * 7 + 3) % bn < bn := Nat.mod_lt _ (by omega)
      obtain ⟨b, off, rfl, hb, hcc⟩ := H5.out (by intro e; have := H2.out; rw [e] at this; simp at this; omega)
      have hne : b ≠ R := by omega
      have hcell : ∀ i, i < bn → ∃ d : Nat, d < 256 ∧ ∀ x, (w.setCell ⟨R, 1, none⟩ x).cell? ⟨b, off + i, none⟩ = some (.int .u8 (d : Int)) := fun i hi => by
        have hby := H4.out _ (el_mem (xs := ds) (i := i) (by rw [H2.out]; exact hi))
        refine ⟨(el ds i).toNat, by have := hby.1; have := hby.2; omega, fun x => ?_⟩
        rw [World.cell?_setCell_other _ _ _ _ (fun e => hne (by injection e with e1; first | exact e1 | exact e1.symm)), hcc i (by rw [H2.out]; exact hi)]
        congr 2
        have := hby.1; omega
      obtain ⟨d1, hd1, hc1⟩ := hcell _ hi1
      obtain ⟨d2, hd2, hc2⟩ := hcell _ hi2
      clear hcc hcell
      have hkb : decide ((p : Int) < (bn : Int)) = false := by simp; omega
      obtain ⟨i1, ei1⟩ : ∃ i1 : Nat, i1 = p % bn := ⟨_, rfl⟩
      obtain ⟨i2, ei2⟩ : ∃ i2 : Nat, i2 = (p * 7 + 3) % bn := ⟨_, rfl⟩
      rw [← ei1] at hi1 hc1
      rw [← ei2] at hi2 hc2
      obtain ⟨m1, e1⟩ : ∃ m : Nat, m = d1 * 131 := ⟨_, rfl⟩
      obtain ⟨m7, e7⟩ : ∃ m : Nat, m = p * 7 := ⟨_, rfl⟩
      obtain ⟨s3, e3⟩ : ∃ m : Nat, m = m7 + 3 := ⟨_, rfl⟩
      obtain ⟨m2, e2⟩ : ∃ m : Nat, m = d2 * 1117 := ⟨_, rfl⟩
      obtain ⟨s4, e4⟩ : ∃ m : Nat, m = m1 + m2 := ⟨_, rfl⟩
      obtain ⟨m29, e29⟩ : ∃ m : Nat, m = p * 29 := ⟨_, rfl⟩
      obtain ⟨s5, e5⟩ : ∃ m : Nat, m = s4 + m29 := ⟨_, rfl⟩
      obtain ⟨q, eq⟩ : ∃ m : Nat, m = p / bn := ⟨_, rfl⟩
      have hq : q ≤ p := by rw [eq]; exact Nat.div_le_self _ _
      obtain ⟨m53, e53⟩ : ∃ m : Nat, m = q * 53 := ⟨_, rfl⟩
      obtain ⟨x, ex⟩ : ∃ m : Nat, m = s5 + m53 := ⟨_, rfl⟩
      have hx : x < 4611686018427387904 := by omega
      have r1 : (p : Int).tmod (bn : Int) = (i1 : Int) := by rw [Int.tmod_eq_emod_of_nonneg (by omega), ei1]; rfl
      have r2 : IntKind.i64.wrap ((d1 : Int) * 131) = (m1 : Int) := by rw [IntKind.wrap_i64]; omega
      have r3 : IntKind.i64.wrap ((p : Int) * 7) = (m7 : Int) := by rw [IntKind.wrap_i64]; omega
      have r4 : IntKind.i64.wrap ((m7 : Int) + 3) = (s3 : Int) := by rw [IntKind.wrap_i64]; omega
      have r5 : (s3 : Int).tmod (bn : Int) = (i2 : Int) := by rw [Int.tmod_eq_emod_of_nonneg (by omega), ei2, ← e7, ← e3]; rfl
      have r6 : IntKind.i64.wrap ((d2 : Int) * 1117) = (m2 : Int) := by rw [IntKind.wrap_i64]; omega
      have r7 : IntKind.i64.wrap ((m1 : Int) + (m2 : Int)) = (s4 : Int) := by rw [IntKind.wrap_i64]; omega
      have r8 : IntKind.i64.wrap ((p : Int) * 29) = (m29 : Int) := by rw [IntKind.wrap_i64]; omega
      have r9 : IntKind.i64.wrap ((s4 : Int) + (m29 : Int)) = (s5 : Int) := by rw [IntKind.wrap_i64]; omega
      have r11 : IntKind.i64.wrap ((q : Int) * 53) = (m53 : Int) := by rw [IntKind.wrap_i64]; omega
      have r12 : IntKind.i64.wrap ((s5 : Int) + (m53 : Int)) = (x : Int) := by rw [IntKind.wrap_i64]; omega
      have hx63 : x < 2 ^ 63 := by omega
      have hx64 : x / 64 < 2 ^ 63 := by omega
      have hq63 : q < 2 ^ 63 := by omega
      obtain ⟨y, ey⟩ : ∃ y : Nat, y = x ^^^ x / 64 := ⟨_, rfl⟩
      have r13 : bits .xor .i64 (x : Int) ((x : Int) / 64) = (y : Int) := by
        rw [ey, show (x : Int) / 64 = ((x / 64 : Nat) : Int) from rfl]; exact i64_xor x (x / 64) hx63 hx64
      have r10 : IntKind.i64.wrap ((p : Int).tdiv (bn : Int)) = (q : Int) := by
        rw [Int.tdiv_eq_ediv_of_nonneg (by omega), show (p : Int) / (bn : Int) = ((p / bn : Nat) : Int) from rfl, ← eq]; exact i64_in' hq63
      have r10' : wrap64 ((p : Int) / (bn : Int)) = (q : Int) := by
        rw [show (p : Int) / (bn : Int) = ((p / bn : Nat) : Int) from rfl, ← eq]; exact wrap64_in hq63
      clear hx63 hx64 hq63
      clear ei1 ei2 e1 e7 e3 e2 e4 e29 e5 eq e53 ex ey
      go_enter Tryd.func42, Tryd.ntmps42
      go_wp2
      go_quiet (fail)
      clear r1 r2 r3 r4 r5 r6 r7 r8 r9 r10 r10' r11 r12
      go_wp2
      go_ret
      exact ⟨(y : Int) % n, ⟨Int.emod_nonneg _ (by omega), Int.emod_lt_of_pos _ (by omega)⟩, rfl, HS.out _⟩
end Go.Proofs.YtflplihhakepfaaDoor
