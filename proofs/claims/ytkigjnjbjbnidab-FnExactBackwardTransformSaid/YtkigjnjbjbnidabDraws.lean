/-
  Drawing numbers, bits, lists and generator polynomials, walked. No condition.
-/
import Derived.Test.YtkigjnjbjbnidabPackBytes
import Derived.Test.YtkigjnjbjbnidabGrow
import Derived.Test.YtkigjnjbjbnidabOne
import Derived.Test.YtkigjnjbjbnidabTwo
namespace Go.Proofs.Ytkigjnjbjbnidab
open Go.RowKit

theorem i64_xor (a b : Nat) (ha : a < 2 ^ 63) (hb : b < 2 ^ 63) : bits .xor .i64 (a : Int) (b : Int) = ((a ^^^ b : Nat) : Int) := by
  have hof : ∀ n : Nat, n < 2 ^ 63 → (BitVec.ofInt 64 (n : Int)).toNat = n := fun n hn => by
    rw [BitVec.ofInt_natCast, BitVec.toNat_ofNat]; exact Nat.mod_eq_of_lt (by omega)
  have hlt : a ^^^ b < 2 ^ 63 := Nat.xor_lt_two_pow ha hb
  show IntKind.i64.wrap ((BitVec.ofInt 64 (a : Int) ^^^ BitVec.ofInt 64 (b : Int)).toNat : Int) = _
  rw [BitVec.toNat_xor, hof a ha, hof b hb, IntKind.wrap_i64]
  generalize a ^^^ b = q at hlt
  omega
theorem i64_in' {n : Nat} (h : n < 2 ^ 63) : IntKind.i64.wrap (n : Int) = n := by rw [IntKind.wrap_i64]; omega
theorem Ints.take {k : IntKind} {w : World} {B m : Nat} {a : Option Addr} {xs : List Int} (h : Ints k w B a xs) : Ints k w B a (xs.take m) := fun hne => by
  have hne' : xs ≠ [] := by intro e; subst e; simp at hne
  obtain ⟨b, off, e, hb, hc⟩ := h hne'
  refine ⟨b, off, e, hb, fun i hi => ?_⟩
  have hi2 : i < m ∧ i < xs.length := by simpa [Nat.lt_min] using hi
  rw [hc i hi2.2]
  simp [el, hi2.1, hi2.2]
theorem Grow.grownR {k : IntKind} {t : TypeId} {w w' : World} {base n cap R : Nat} {a : Option Addr} {xs : List Int} (h : Grow k t w base a n cap xs) (hg : w.grownBy w' (some R)) (hR : R < base) : Grow k t w' base a n cap xs :=
  h.keep fun b hb hlt => hg.block b hlt (fun e => by injection e; omega)
theorem grown_below {w a b : World} {R B : Nat} (h : w.grownBy a (some R)) (hb : Below B a b) (hB : w.heap.size ≤ B) : w.grownBy b (some R) :=
  ⟨hb.os.trans h.os, hb.tape.trans h.tape, hb.output.trans h.output, Nat.le_trans h.size hb.size, fun j hj hne => (hb.block j (by omega)).trans (h.block j hj hne)⟩
theorem grown_trans {w a b : World} {R : Nat} (h : w.grownBy a (some R)) (h' : a.grownBy b (some R)) : w.grownBy b (some R) :=
  ⟨h'.os.trans h.os, h'.tape.trans h.tape, h'.output.trans h.output, Nat.le_trans h.size h'.size, fun j hj hne => (h'.block j (Nat.lt_of_lt_of_le hj h.size) hne).trans (h.block j hj hne)⟩

/-- A number that a drawn list of bits may hold. -/
def small (x : Int) : Prop := -1 ≤ x ∧ x ≤ 2
theorem grown_alloc {w a : World} {R : Nat} (h : w.grownBy a (some R)) (o : Obj) : w.grownBy (a.alloc o) (some R) :=
  ⟨h.os, h.tape, h.output, Nat.le_trans h.size (by simp), fun j hj hne => (Below.heap_alloc a o j (Nat.lt_of_lt_of_le hj h.size)).trans (h.block j hj hne)⟩
theorem small_snoc {xs : List Int} {x : Int} (h : ∀ y ∈ xs, small y) (hx : small x) : ∀ y ∈ xs ++ [x], small y := fun y hy => by
  rcases List.mem_append.1 hy with hy | hy
  · exact h y hy
  · simp at hy; subst hy; exact hx
theorem Grow.addr {k : IntKind} {t : TypeId} {w : World} {base n cap : Nat} {a : Option Addr} {xs : List Int} (h : Grow k t w base a (n + 1) cap xs) : ∃ ad, a = some ad := by
  obtain ⟨b, f, e, _⟩ := h.row (by omega)
  exact ⟨_, e⟩
section
variable {w : World} {ops : Array Oper} {rest : List Oper} {o : Oper} {a : Act} {Q : Exit → Act → World → Prop}
theorem wpList_appendS (s x : Operand) (base : Nat) (A : Option Addr) (n cap : Nat) (xs ys : List Int) (ad : Addr) (m c B : Nat)
    (hgd : o.guard = none) (ho : o.op = .call { callee := .builtin .append, args := #[s, x], argTypes := #[24, 24] }) (hs : a.eval s = .slice A n cap) (hx : a.eval x = .slice (some ad) m c)
    (hg : Grow .i64 3 w base A n cap xs) (hy : Ints .i64 w B (some ad) ys) (hm : ys.length = m) (hn : n + m < 1099511627776) (hb : base ≤ w.heap.size)
    (h : ∀ a' cap' w', Grow .i64 3 w' base a' (n + m) cap' (xs ++ ys) → Below base w w' → a' ≠ none ∨ A = none → wpList Try.prog ops Q rest (a.put o.dst (.slice a' (n + m) cap')) w') : wpList Try.prog ops Q (o :: rest) a w := by
  obtain ⟨i0, hi0, hz0, hz1, hz2⟩ := info_parts Try.infoInt
  refine wpList_append_own w hgd s x _ ho base 3 i0 (.int .i64 0) 1 8 Try.underlying24 hi0 hz0 hz1 hz2 rfl (by omega) _ n _ hs hg ad m c (ys.map (Value.int .i64)) hx (by simp [hm]) ?_ (ints_oneCell _ _) (by unfold maxLen; omega) (by omega) hb ?_
  · intro j u hj
    have hjl : j < ys.length := by have := (List.getElem?_eq_some_iff.1 hj).1; simpa using this
    obtain ⟨b, off, e, _, hc⟩ := hy.at_ hjl
    injection e with e
    subst e
    have hadd : (⟨b, off, none⟩ : Addr).add j = ⟨b, off + j, none⟩ := by unfold Addr.add; split <;> simp_all
    rw [hadd, hc]
    simp [hjl] at hj
    rw [← hj, el_lt hjl]
  · intro v' w' h2 h3 h4
    have hlen : (xs.map (Value.int .i64) ++ ys.map (Value.int .i64)) = (xs ++ ys).map (Value.int .i64) := by simp
    rw [hlen] at h2
    have hsh : ∃ a' cap', v' = .slice a' (n + m) cap' := by
      rcases h2.2 with ⟨e, h0⟩ | ⟨g, c', cur, e, _⟩
      · exact ⟨none, 0, by rw [e, h0]⟩
      · exact ⟨_, _, e⟩
    obtain ⟨a', cap', rfl⟩ := hsh
    refine h a' cap' w' h2 ((Below.refl _ _).grown h3 hb hg.own) ?_
    by_cases hA : A = none
    · exact .inr hA
    · refine .inl fun e => ?_
      subst e
      rcases h2.2 with ⟨e, h0⟩ | ⟨g, c', cur, e, _⟩
      · have := (h4.1 e).1
        injection this with e1
        exact hA e1
      · injection e with e1; cases e1
end
theorem Grow.set {k : IntKind} {t : TypeId} {w : World} {base n cap b : Nat} {xs : List Int} (h : Grow k t w base (some ⟨b, 0, none⟩) n cap xs) (j : Nat) (v : Int) :
    Grow k t (w.setCell ⟨b, j, none⟩ (.int k v)) base (some ⟨b, 0, none⟩) n cap (xs.set j v) := by
  have := World.ownsRow.stored h j (.int k v)
  rw [← List.map_set] at this
  exact this.1
theorem Grow.addr0 {k : IntKind} {t : TypeId} {w : World} {base n cap : Nat} {a : Option Addr} {xs : List Int} (h : Grow k t w base a n cap xs) (hne : a ≠ none) : ∃ b, a = some ⟨b, 0, none⟩ ∧ base ≤ b := by
  rcases h.2 with ⟨e, _⟩ | ⟨g, c, cur, e, hg, _⟩
  · injection e with e1; exact absurd e1 hne
  · injection e with e1; exact ⟨g, e1, hg⟩
theorem small_set {xs : List Int} {x : Int} {j : Nat} (h : ∀ y ∈ xs, small y) (hx : small x) : ∀ y ∈ xs.set j x, small y := fun y hy => by
  rcases List.mem_or_eq_of_mem_set hy with hy | rfl
  · exact h y hy
  · exact hx

/-- Two drawn lists; only the reader was written besides. -/
def TwinPost (R most : Nat) (w : World) (e : Ending) (w' : World) : Prop :=
  ∃ xs ys a b c c', e = .returned (.tuple #[.slice a xs.length c, .slice b ys.length c']) ∧ xs.length ≤ most + 1 ∧ ys.length ≤ most + 1 ∧ (∀ x ∈ xs, small x) ∧ (∀ x ∈ ys, small x) ∧
    Ints .i64 w' w'.heap.size a xs ∧ Ints .i64 w' w'.heap.size b ys ∧ w.grownBy w' (some R)
theorem ints_other {k : IntKind} {w1 wr : World} {R B : Nat} {a : Option Addr} {xs : List Int} {base n cap t : Nat} (h : Grow k t w1 base a n cap xs) (hR : R < base) (hk : ∀ j, j < w1.heap.size → j ≠ R → wr.heap[j]? = w1.heap[j]?) (hB : w1.heap.size ≤ B) : Ints k wr B a xs := fun hne => by
  have hlen := h.len
  have hp : 0 < n := by rw [← hlen]; exact List.length_pos_iff.2 hne
  obtain ⟨b, f, rfl, h1, hb, hc, hr, hf⟩ := h.row hp
  exact ⟨b, 0, rfl, by omega, fun i hi => by rw [Nat.zero_add, (hr.of_block (hk b hb (by omega))).cell (by omega), hf i (by omega)]⟩

theorem twin_size {k : IntKind} {t : TypeId} {w : World} {base n cap b : Nat} {xs : List Int} (h : Grow k t w base (some ⟨b, 0, none⟩) n cap xs) (_hb : base ≤ b) : base ≤ w.heap.size := by
  rcases h.2 with ⟨e, _⟩ | ⟨g, c, cur, e, hg, hh, _⟩
  · injection e with e1; cases e1
  · have := (Array.getElem?_eq_some_iff.1 hh).1; omega
theorem twin_lt {k : IntKind} {t : TypeId} {w : World} {base n cap b m j : Nat} {xs : List Int} (h : Grow k t w base (some ⟨b, 0, none⟩) n cap xs) (_ : m < n) (hj : j < base) (hb : base ≤ b) : j < w.heap.size := by
  have := twin_size h hb; omega
theorem grow_cell {k : IntKind} {t : TypeId} {w : World} {base n cap b i : Nat} {xs : List Int} (h : Grow k t w base (some ⟨b, 0, none⟩) n cap xs) (hi : i < n) : (∃ u, w.cell? ⟨b, i, none⟩ = some (.int k u)) ∧ w.frozen? ⟨b, i, none⟩ = false := by
  obtain ⟨b', f, e, _, _, hc, hr, hf⟩ := h.row (by omega)
  injection e with e
  injection e with e
  subst e
  exact ⟨⟨_, by rw [hr.cell (by omega), hf i hi]⟩, hr.frozen i⟩
/-- A slice that came in, with its capacity. -/
theorem ints_of_open2 {k : IntKind} {w : World} {a : Option Addr} {len cap : Nat} {zs : List Int}
    (h : (a = none ∧ len = 0 ∧ cap = 0 ∧ zs = []) ∨
      ∃ x, a = some x ∧ len ≤ cap ∧ cap ≤ maxLen ∧ zs.length = cap ∧ (∀ i, i < zs.length → w.cell? (x.add i) = some (.int k (zs.getD i 0))) ∧ ∀ n ∈ zs, (Lit.int k n).wf = true) :
    ∃ xs : List Int, xs.length = len ∧ Ints k w w.heap.size a xs ∧ (∀ n ∈ xs, (Lit.int k n).wf = true) ∧ xs.length ≤ cap ∧ cap ≤ maxLen := by
  have hc : len ≤ cap ∧ cap ≤ maxLen := by
    rcases h with ⟨_, rfl, rfl, _⟩ | ⟨_, _, h1, h2, _⟩
    · exact ⟨Nat.le_refl _, by unfold maxLen; omega⟩
    · exact ⟨h1, h2⟩
  obtain ⟨xs, h1, h2, h3⟩ := ints_of_open h
  exact ⟨xs, h1, h2, h3, by omega, hc.2⟩

def TwoPost (w : World) (e : Ending) (w' : World) : Prop :=
  ∃ xs ys a b c c', e = .returned (.tuple #[.slice a xs.length c, .slice b ys.length c']) ∧ xs.length ≤ 21 ∧ ys.length ≤ 21 ∧ (∀ x ∈ xs, small x) ∧ (∀ x ∈ ys, small x) ∧
    Ints .i64 w' w'.heap.size a xs ∧ Ints .i64 w' w'.heap.size b ys ∧ Below w.heap.size w w'
theorem dist_10 : distOr [1] [0] = 1 := by decide +kernel
theorem ints_one {w : World} {b : Nat} {t : TypeId} {x : Int} (h : w.heap[b]? = some (.cells #[.int .i64 x] t (0, 0))) (hb : b < w.heap.size) : Ints .i64 w w.heap.size (some ⟨b, 0, none⟩) [x] := fun _ =>
  ⟨b, 0, rfl, hb, fun i hi => by
    have h0 : i = 0 := by simp at hi; exact hi
    subst h0
    rw [cell_of_row _ _ _ _ _ _ h]; rfl⟩
theorem cell_grown {w w' : World} {b R i : Nat} {cs : Array Value} {t : TypeId} (hg : (w.alloc (.cells cs t)).grownBy w' (some R)) (hb : b = w.heap.size) (hR : R < w.heap.size) : w'.cell? ⟨b, i, none⟩ = cs[i]? := by
  subst hb
  rw [World.cell?_of_block (hg.block w.heap.size (by simp) (fun e => by injection e; omega)), cell_of_row _ _ _ _ _ _ (heap_alloc_last w _)]
/-- A drawn number. -/
def NumPost (w : World) (e : Ending) (w' : World) : Prop :=
  ∃ g : Int, (-1000000 ≤ g ∧ g ≤ 1000000) ∧ e = .returned (.int .i64 g) ∧ Below w.heap.size w w'
theorem below_R {w w1 w2 : World} (h : Below w.heap.size w w1) (g : w1.grownBy w2 (some w.heap.size)) : Below w.heap.size w w2 := h.grown g h.size (fun k e => by injection e; omega)
end Go.Proofs.Ytkigjnjbjbnidab
