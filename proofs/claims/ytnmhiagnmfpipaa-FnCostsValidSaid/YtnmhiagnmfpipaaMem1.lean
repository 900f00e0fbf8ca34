/-
  Memory of a call's own: rows that are filled, slices of Booleans, lists that grow, copies and marks of lists of Booleans. Conditions: lists that can be read, of at most 2^20 values.
-/
import Derived.Test.YtnmhiagnmfpipaaSeqMath
import Derived.Test.YtnmhiagnmfpipaaAppendA
import Derived.Test.YtnmhiagnmfpipaaToInts
import Derived.Test.YtnmhiagnmfpipaaOne
import Derived.Lib.BufferOwn
import Derived.ArgAppend
import Derived.Deep.DeepAppendRoom
import Derived.Deep.RegionLaw
namespace Go.Proofs.Ytnmhiagnmfpipaa
open Go.RowKit

theorem wrapW {n : Int} (h : -1000000000000 ≤ n ∧ n ≤ 1000000000000) : IntKind.i64.wrap n = n := by rw [IntKind.wrap_i64]; omega
theorem wrapW' {n : Int} (h : -1000000000000 ≤ n ∧ n ≤ 1000000000000) : wrap64 n = n := by unfold wrap64; omega
/-- Row i of rows of numbers. -/
def rwI (R : List (List Int)) (i : Nat) : List Int := R.getD i []
/-- A list of n numbers whose first k are made. -/
def mkX (F : Nat → Int) (n k : Nat) : List Int := (List.range n).map fun i => if i < k then F i else 0
theorem mkX_length (F : Nat → Int) (n k : Nat) : (mkX F n k).length = n := by simp [mkX]
theorem mkX_start (F : Nat → Int) (n : Nat) : mkX F n 0 = List.replicate n 0 := by
  refine list_ext9 (by simp [mkX]) fun i hi => ?_
  rw [mkX_length] at hi
  simp [mkX, el, hi]
theorem mkX_done (F : Nat → Int) (n : Nat) : mkX F n n = (List.range n).map F := by
  refine list_ext9 (by simp [mkX]) fun i hi => ?_
  rw [mkX_length] at hi
  simp [mkX, el, hi]
theorem mkX_set (F : Nat → Int) {n k : Nat} (hk : k < n) : (mkX F n k).set k (F k) = mkX F n (k + 1) := by
  refine list_ext9 (by simp [mkX]) fun i hi => ?_
  rw [List.length_set, mkX_length] at hi
  by_cases e : i = k
  · subst e; simp [mkX, el, hi]
  · have e2 : k ≠ i := fun h => e h.symm
    simp only [el, List.getD_eq_getElem?_getD, List.getElem?_set_ne e2]
    simp only [mkX, List.getElem?_map, List.getElem?_range hi, Option.map_some, Option.getD_some]
    by_cases h : i < k
    · rw [if_pos h, if_pos (by omega)]
    · rw [if_neg h, if_neg (by omega)]
/-- A row of the call's own that holds a list. -/
def RowX (W : World) (b : Nat) (xs : List Int) : Prop := W.rowIs b 3 xs.length (fun i => .int .i64 (el xs i))
section
variable {W W' : World} {b : Nat} {xs : List Int}
theorem RowX.cell (h : RowX W b xs) {k : Nat} (hk : k < xs.length) : W.cell? ⟨b, k, none⟩ = some (.int .i64 (el xs k)) := World.rowIs.cell h hk
theorem RowX.frozen (h : RowX W b xs) (k : Nat) : W.frozen? ⟨b, k, none⟩ = false := World.rowIs.frozen h k
theorem RowX.set (h : RowX W b xs) {k : Nat} (_hk : k < xs.length) (v : Int) : RowX (W.setCell ⟨b, k, none⟩ (.int .i64 v)) b (xs.set k v) := by
  unfold RowX
  rw [List.length_set]
  refine (World.rowIs.set h k (.int .i64 v)).congr fun j hj => ?_
  by_cases e : j = k
  · subst e; simp [el, hj]
  · have e2 : k ≠ j := fun h => e h.symm
    simp only [e, if_false, el, List.getD_eq_getElem?_getD, List.getElem?_set_ne e2]
theorem RowX.lt (h : RowX W b xs) : b < W.heap.size := World.rowIs.lt h
theorem RowX.next (h : RowX W b xs) (hb : Below W.heap.size W W') : RowX W' b xs := World.rowIs.of_block h (hb.block b h.lt)
theorem RowX.ints (h : RowX W b xs) : Ints .i64 W W.heap.size (some ⟨b, 0, none⟩) xs := ints_of_row h rfl h.lt
end
set_option maxRecDepth 10000 in
theorem rowX_made (w : World) (F : Nat → Int) (n : Nat) : RowX (w.alloc (.cells (madeCells #[.int .i64 0] n) 3)) w.heap.size (mkX F n 0) := by
  unfold RowX
  rw [mkX_length]
  refine (World.rowIs_made w (.int .i64 0) n 3).congr fun j hj => ?_
  rw [mkX_start]
  simp [el, hj]
set_option maxRecDepth 10000 in
theorem makeX (n : Nat) (hn : n ≤ 1000000) (w : World) : (Instr.makeSlice 27 (.int .i64 (n : Int)) (.int .i64 (n : Int))).run Try.prog w = .ok (.slice (some ⟨w.heap.size, 0, none⟩) n n) (w.alloc (.cells (madeCells #[.int .i64 0] n) 3)) :=
  run_make_row' (P := Try.prog) 27 3 (.int .i64 0) 8 Try.underlying27 Try.infoInt rfl .i64 .i64 n (by omega) (by omega) w
theorem alloc_belowX (w : World) (o : Obj) : Below w.heap.size w (w.alloc o) := (Below.refl _ _).alloc (Nat.le_refl _) o
theorem rowX_post {w W : World} {b n : Nat} {xs : List Int} (h : RowX W b xs) (hl : xs.length ≤ maxLen) (hb : w.heap.size ≤ b) (hbl : Below w.heap.size w W) (hn : n = xs.length) : ListPostC xs w (.returned (.slice (some ⟨b, 0, none⟩) n n)) W := by
  subst hn
  exact listPostC_row h rfl hl hb hbl
/-- Place i of a list of Booleans; false behind its end. -/
def bt (ls : List Bool) (i : Nat) : Bool := ls.getD i false
theorem bt_lt {ls : List Bool} {i : Nat} (h : i < ls.length) : bt ls i = ls[i] := by simp [bt, h]
theorem bt_ge {ls : List Bool} {i : Nat} (h : ¬ i < ls.length) : bt ls i = false := by simp [bt, show ls.length ≤ i by omega]
/-- The slice that begins at `a` holds the Booleans `ls`, in a block below `B`; nothing is said of an empty one. -/
def Bls (w : World) (B : Nat) (a : Option Addr) (ls : List Bool) : Prop :=
  ls ≠ [] → ∃ b off, a = some ⟨b, off, none⟩ ∧ b < B ∧ ∀ i, i < ls.length → w.cell? ⟨b, off + i, none⟩ = some (.bool (bt ls i))
section
variable {w w' : World} {B B' : Nat} {a : Option Addr} {ls : List Bool}
theorem Bls.nil : Bls w B a [] := fun h => absurd rfl h
theorem Bls.at_ (h : Bls w B a ls) {i : Nat} (hi : i < ls.length) :
    ∃ b off, a = some ⟨b, off, none⟩ ∧ b < B ∧ w.cell? ⟨b, off + i, none⟩ = some (.bool (bt ls i)) := by
  obtain ⟨b, off, e, hb, hc⟩ := h (by intro e; subst e; simp at hi)
  exact ⟨b, off, e, hb, hc i hi⟩
theorem Bls.keep (h : Bls w B a ls) (hk : ∀ p : Addr, p.block < B → w'.cell? p = w.cell? p) : Bls w' B a ls := fun hn => by
  obtain ⟨b, off, e, hb, hc⟩ := h hn
  exact ⟨b, off, e, hb, fun i hi => (hk _ hb).trans (hc i hi)⟩
theorem Bls.more (h : Bls w B a ls) (hB : B ≤ B') : Bls w B' a ls := fun hn => by
  obtain ⟨b, off, e, hb, hc⟩ := h hn
  exact ⟨b, off, e, Nat.lt_of_lt_of_le hb hB, hc⟩
theorem Bls.below (h : Bls w B a ls) (hb : Below B w w') : Bls w' B a ls := h.keep fun _ hp => hb.cell hp
theorem Bls.drewN (h : Bls w B a ls) (n : Nat) : Bls (w.drewN n) B a ls := h
theorem Bls.next (h : Bls w w.heap.size a ls) (hb : Below w.heap.size w w') : Bls w' w'.heap.size a ls := (h.below hb).more hb.size
end
set_option maxRecDepth 10000 in
theorem Try.infoBool1 : (Try.prog.info? 4).map (fun i => (i.zero, i.size, i.bytes)) = some (some (.bool false), 1, 1) := by kernel_rfl
set_option maxRecDepth 10000 in
theorem makeB (n : Nat) (hn : n ≤ 1000000) (w : World) : (Instr.makeSlice 39 (.int .i64 (n : Int)) (.int .i64 (n : Int))).run Try.prog w = .ok (.slice (some ⟨w.heap.size, 0, none⟩) n n) (w.alloc (.cells (madeCells #[.bool false] n) 4)) :=
  run_make_row' (P := Try.prog) 39 4 (.bool false) 1 Try.underlying39 Try.infoBool1 rfl .i64 .i64 n (by omega) (by omega) w
/-- A list of Booleans in memory of its own. -/
def GrowB (w : World) (base : Nat) (a : Option Addr) (n cap : Nat) (ls : List Bool) : Prop := w.ownsRow base 4 1 (.slice a n cap) n (ls.map Value.bool)
section
variable {w w' : World} {base n cap : Nat} {a : Option Addr} {ls : List Bool}
theorem GrowB.len (h : GrowB w base a n cap ls) : ls.length = n := by simpa using h.1
theorem GrowB.own (h : GrowB w base a n cap ls) : ∀ b, Value.ownBlock (.slice a n cap) = some b → base ≤ b := by
  intro b hb
  rcases h.2 with ⟨e, _⟩ | ⟨g, c, cur, e, hg, _⟩
  · rw [e] at hb; simp [Value.ownBlock] at hb
  · rw [e] at hb; simp [Value.ownBlock] at hb; omega
theorem GrowB.bls (h : GrowB w base a n cap ls) : Bls w w.heap.size a ls := fun hne => by
  have hlen := h.len
  rcases h.2 with ⟨_, h0⟩ | ⟨g, c, cur, e, hg, hh, hnc, hcm, hcs, htk⟩
  · exact absurd (List.eq_nil_of_length_eq_zero (by omega)) hne
  · injection e with e1 e2 e3
    subst e1 e3
    rw [Nat.mul_one] at hcs htk
    refine ⟨g, 0, rfl, (Array.getElem?_eq_some_iff.1 hh).1, fun i hi => ?_⟩
    have h1 : (cur.toList.take n)[i]? = (ls.map Value.bool)[i]? := by rw [htk]
    rw [List.getElem?_take, if_pos (by omega)] at h1
    have hic : i < cur.size := by omega
    simp [hic, hi] at h1
    simp [World.cell?, hh, hic, h1, bt, hi]
theorem GrowB.keep (h : GrowB w base a n cap ls) (hk : ∀ b, base ≤ b → b < w.heap.size → w'.heap[b]? = w.heap[b]?) : GrowB w' base a n cap ls := by
  refine ⟨h.1, ?_⟩
  rcases h.2 with h0 | ⟨g, c, cur, e, hg, hh, rest⟩
  · exact .inl h0
  · exact .inr ⟨g, c, cur, e, hg, (hk g hg (Array.getElem?_eq_some_iff.1 hh).1).trans hh, rest⟩
theorem GrowB.alloc (h : GrowB w base a n cap ls) (o : Obj) : GrowB (w.alloc o) base a n cap ls := h.keep fun b _ hb => Below.heap_alloc w o b hb
theorem GrowB.grownR {R : Nat} (h : GrowB w base a n cap ls) (hg : w.grownBy w' (some R)) (hR : R < base) : GrowB w' base a n cap ls := h.keep fun b hb hl => hg.block b hl (fun e => by injection e with e; omega)
end
set_option maxRecDepth 10000 in
theorem GrowB.lit0 (w : World) (base : Nat) (hb : base ≤ w.heap.size) : GrowB (w.alloc (.cells #[] 4)) base (some ⟨w.heap.size, 0, none⟩) 0 0 [] :=
  ⟨rfl, .inr ⟨w.heap.size, 0, #[], rfl, hb, heap_alloc_last _ _, Nat.le_refl _, by simp, by simp, rfl⟩⟩
section
variable {w : World} {ops : Array Oper} {rest : List Oper} {o : Oper} {a : Act} {Q : Exit → Act → World → Prop}
set_option maxRecDepth 10000 in
theorem wpList_appendB1 (s x : Operand) (base : Nat) (A : Option Addr) (n cap : Nat) (ls : List Bool) (ad : Addr) (v : Bool)
    (hgd : o.guard = none) (ho : o.op = .call { callee := .builtin .append, args := #[s, x], argTypes := #[39, 39] }) (hs : a.eval s = .slice A n cap) (hx : a.eval x = .slice (some ad) 1 1)
    (hg : GrowB w base A n cap ls) (hc : w.cell? ad = some (.bool v)) (hn : n < 1099511627776) (hb : base ≤ w.heap.size)
    (h : ∀ a' cap' w', GrowB w' base a' (n + 1) cap' (ls ++ [v]) → Below base w w' → wpList Try.prog ops Q rest (a.put o.dst (.slice a' (n + 1) cap')) w') : wpList Try.prog ops Q (o :: rest) a w := by
  obtain ⟨i0, hi0, hz0, hz1, hz2⟩ := info_parts Try.infoBool1
  refine wpList_append_own w hgd s x _ ho base 4 i0 (.bool false) 1 1 Try.underlying39 hi0 hz0 hz1 hz2 rfl (by omega) _ n _ hs hg ad 1 1 [.bool v] hx rfl ?_ (by simp [Value.oneCell']) (by unfold maxLen; omega) (by omega) hb ?_
  · intro j u hj
    match j, hj with
    | 0, hj => simp at hj; subst hj; simpa [Addr.add] using hc
  · intro v' w' h2 h3 _
    rcases h2.2 with ⟨_, h0⟩ | ⟨g, c, cur, e, _⟩
    · omega
    · subst e
      exact h _ _ _ (by simpa [GrowB] using h2) ((Below.refl _ _).grown h3 hb hg.own)
end
set_option maxRecDepth 10000 in
theorem Grow.addr1 {W : World} {base n cap : Nat} {a : Option Addr} {xs : List Int} (h : Grow .i64 3 W base a n cap xs) (hne : a ≠ none) : ∃ b, a = some ⟨b, 0, none⟩ ∧ base ≤ b ∧ b < W.heap.size := by
  rcases h.2 with ⟨e, _⟩ | ⟨g, c, cur, e, hg, hh, _⟩
  · injection e with e1; exact absurd e1 hne
  · injection e with e1; exact ⟨g, e1, hg, (Array.getElem?_eq_some_iff.1 hh).1⟩
theorem keptOut_set {A E b : Nat} (W : World) (k : Nat) (v : Value) (h1 : A ≤ b) (h2 : b < E) : KeptOut A E W (W.setCell ⟨b, k, none⟩ v) := KeptOut.of_grown (Lib.grownBy_setCell W b k v) h1 h2
theorem keptOut_trans {A E : Nat} {u v w : World} (h : KeptOut A E u v) (h' : KeptOut A E v w) : KeptOut A E u w :=
  ⟨h'.os.trans h.os, h'.tape.trans h.tape, h'.output.trans h.output, Nat.le_trans h.size h'.size, fun j hj hd => (h'.block j (Nat.lt_of_lt_of_le hj h.size) hd).trans (h.block j hj hd)⟩
set_option maxRecDepth 10000 in
/-- One number appended to a slice in block g: it stays in g, or it lies in a new block; no other block changes. -/
theorem run_append_twoT (w : World) (ty : TypeId) (base g n cap : Nat) (xs : List Int) (ad : Addr) (v : Int)
    (hg : Grow .i64 3 w base (some ⟨g, 0, none⟩) n cap xs) (hc : w.cell? ad = some (.int .i64 v)) (hn : n < 1099511627776) (hb : base ≤ w.heap.size) :
    ∃ g' cap' w', (Builtin.append_ #[27, 27] ty #[.slice (some ⟨g, 0, none⟩) n cap, .slice (some ad) 1 1]).run Try.prog w = .ok (.slice (some ⟨g', 0, none⟩) (n + 1) cap') w' ∧
      (g' = g ∨ w.heap.size ≤ g') ∧ Grow .i64 3 w' base (some ⟨g', 0, none⟩) (n + 1) cap' (xs ++ [v]) ∧ w.grownBy w' (some g) := by
  obtain ⟨i0, hi0, hz0, hz1, hz2⟩ := info_parts Try.infoInt
  have hnews : ∀ j u, [Value.int .i64 v][j]? = some u → w.cell? (ad.add j) = some u := fun j u hj => by
    match j, hj with
    | 0, hj => simp at hj; subst hj; simpa [Addr.add] using hc
  have hmap : (xs ++ [v]).map (Value.int .i64) = xs.map (Value.int .i64) ++ [Value.int .i64 v] := by simp
  by_cases hroom : n + 1 ≤ cap
  · obtain ⟨w', hr, h2, h3⟩ := run_append_own_spare (P := Try.prog) w base 27 ty 3 i0 1 Try.underlying27 hi0 hz1 g n cap (xs.map (Value.int .i64)) hg ad 1 1 [.int .i64 v] rfl hnews (by simp [Value.oneCell']) hroom
    refine ⟨g, cap, w', hr, .inl rfl, ?_, h3⟩
    unfold Grow; rw [hmap]; exact h2
  · have hbo : ∀ j u, (xs.map (Value.int .i64))[j]? = some u → w.cell? ((⟨g, 0, none⟩ : Addr).add j) = some u := World.ownsRow.cells hg rfl
    obtain ⟨v', w', hr, h2, h3⟩ := run_append_arg_grows (P := Try.prog) w 27 ty 3 i0 (.int .i64 0) 1 8 Try.underlying27 hi0 hz0 hz1 hz2 rfl (by omega) ⟨g, 0, none⟩ n cap (xs.map (Value.int .i64)) (by have := hg.len; simp [this]) hbo ad 1 1 [.int .i64 v] rfl hnews (by omega) (by unfold maxLen; omega) (by omega)
    have h4 : w.grownBy w' (some g) := ⟨h3.os, h3.tape, h3.output, h3.size, fun k hk _ => h3.block k hk (by simp)⟩
    rcases h2.2 with ⟨_, h0⟩ | ⟨g', c', cur, e, hbg, rest⟩
    · omega
    · subst e
      refine ⟨g', c', w', hr, .inr hbg, ?_, h4⟩
      unfold Grow; rw [hmap]
      exact ⟨h2.1, .inr ⟨g', c', cur, rfl, Nat.le_trans hb hbg, rest⟩⟩
/-- One number appended to a list of the call's own: it stays in its block, or lies in a new one; no other block changes. -/
def App1 (base : Nat) (A : Option Addr) (n : Nat) (xs : List Int) (v : Int) (w : World) (a' : Option Addr) (cap' : Nat) (w' : World) : Prop :=
  Grow .i64 3 w' base a' (n + 1) cap' (xs ++ [v]) ∧ Below base w w' ∧ (∀ j, j < w.heap.size → A ≠ some ⟨j, 0, none⟩ → w'.heap[j]? = w.heap[j]?) ∧ (a' = A ∨ ∃ g, w.heap.size ≤ g ∧ a' = some ⟨g, 0, none⟩)
section
variable {w : World} {ops : Array Oper} {rest : List Oper} {o : Oper} {a : Act} {Q : Exit → Act → World → Prop}
set_option maxRecDepth 10000 in
theorem run_app1k (w : World) (ty : TypeId) (base : Nat) (A : Option Addr) (n cap : Nat) (xs : List Int) (ad : Addr) (v : Int)
    (hg : Grow .i64 3 w base A n cap xs) (hc : w.cell? ad = some (.int .i64 v)) (hn : n < 1099511627776) (hb : base ≤ w.heap.size) :
    ∃ a' cap' w', (Builtin.append_ #[27, 27] ty #[.slice A n cap, .slice (some ad) 1 1]).run Try.prog w = .ok (.slice a' (n + 1) cap') w' ∧ App1 base A n xs v w a' cap' w' := by
  by_cases hA : A = none
  · subst hA
    have hx : xs = [] ∧ n = 0 ∧ cap = 0 := by
      have hl := hg.len
      rcases hg.2 with ⟨e, h0⟩ | ⟨g, c, cur, e, _⟩
      · injection e with _ _ e3
        subst h0
        exact ⟨List.eq_nil_of_length_eq_zero hl, rfl, e3⟩
      · injection e with e1; cases e1
    obtain ⟨rfl, rfl, rfl⟩ := hx
    have hadd : ad.spot = none := World.cell?_spot hc
    obtain ⟨bb, oo, sp⟩ := ad
    simp only at hadd
    subst hadd
    have hlt : bb < w.heap.size := by
      rcases Nat.lt_or_ge bb w.heap.size with h | h
      · exact h
      · simp [World.cell?, Array.getElem?_eq_none h] at hc
    obtain ⟨v', w', hr, a', cap', rfl, h1, h2, h3⟩ := run_appendA w ty w.heap.size none (some ⟨bb, oo, none⟩) 0 0 1 1 w.heap.size [] [v] (Grow.nil _ _ _ _) (fun _ => ⟨bb, oo, rfl, hlt, fun i hi => by
      match i, hi with
      | 0, _ => exact hc⟩) rfl (by omega) (Nat.le_refl _)
    simp only [Nat.zero_add, List.nil_append] at hr h1
    obtain ⟨g, e, hg1, hg2⟩ := (show ∃ g, a' = some ⟨g, 0, none⟩ ∧ w.heap.size ≤ g ∧ g < w'.heap.size by
      obtain ⟨ad, e⟩ := Grow.addr (n := 0) h1
      exact Grow.addr1 h1 (by rw [e]; simp))
    exact ⟨a', cap', w', hr, h1.base_le hb, h2.mono hb, fun j hj _ => h2.block j hj, .inr ⟨g, hg1, e⟩⟩
  · obtain ⟨g, rfl, hg1, hg2⟩ := Grow.addr1 hg hA
    obtain ⟨g', cap', w', hr, h1, h2, h3⟩ := run_append_twoT w ty base g n cap xs ad v hg hc hn hb
    refine ⟨_, cap', w', hr, h2, (Below.refl _ _).grown h3 hb (fun k e => by injection e with e; omega), fun j hj hne => h3.block j hj (fun e => hne (by injection e with e; rw [e])), ?_⟩
    rcases h1 with rfl | h1
    · exact .inl rfl
    · exact .inr ⟨g', h1, rfl⟩
set_option maxRecDepth 10000 in
theorem wpList_app1k (s x : Operand) (base : Nat) (A : Option Addr) (n cap : Nat) (xs : List Int) (ad : Addr) (v : Int)
    (hgd : o.guard = none) (ho : o.op = .call { callee := .builtin .append, args := #[s, x], argTypes := #[27, 27] }) (hs : a.eval s = .slice A n cap) (hx : a.eval x = .slice (some ad) 1 1)
    (hg : Grow .i64 3 w base A n cap xs) (hc : w.cell? ad = some (.int .i64 v)) (hn : n < 1099511627776) (hb : base ≤ w.heap.size)
    (h : ∀ a' cap' w', App1 base A n xs v w a' cap' w' → wpList Try.prog ops Q rest (a.put o.dst (.slice a' (n + 1) cap')) w') : wpList Try.prog ops Q (o :: rest) a w := by
  obtain ⟨a', cap', w', hr, h1⟩ := run_app1k w o.type base A n cap xs ad v hg hc hn hb
  exact Lib.wpList_append_run w hgd s x _ _ ho _ _ hs hx _ _ hr (h a' cap' w' h1)
end

set_option maxRecDepth 10000 in
theorem makeB2 (n : Nat) (hn : n ≤ 2000000) (w : World) : (Instr.makeSlice 39 (.int .i64 (n : Int)) (.int .i64 (n : Int))).run Try.prog w = .ok (.slice (some ⟨w.heap.size, 0, none⟩) n n) (w.alloc (.cells (madeCells #[.bool false] n) 4)) :=
  run_make_row' (P := Try.prog) 39 4 (.bool false) 1 Try.underlying39 Try.infoBool1 rfl .i64 .i64 n (by omega) (by omega) w
/-- A row of Booleans of a call's own. -/
def RowB (W : World) (b : Nat) (ls : List Bool) : Prop := W.rowIs b 4 ls.length (fun i => .bool (bt ls i))
section
variable {W W' : World} {b : Nat} {ls : List Bool}
theorem RowB.lt (h : RowB W b ls) : b < W.heap.size := World.rowIs.lt h
theorem RowB.bls (h : RowB W b ls) : Bls W W.heap.size (some ⟨b, 0, none⟩) ls := fun _ => ⟨b, 0, rfl, h.lt, fun i hi => by rw [Nat.zero_add]; exact World.rowIs.cell h hi⟩
theorem RowB.next (h : RowB W b ls) (hb : Below W.heap.size W W') : RowB W' b ls := World.rowIs.of_block h (hb.block b h.lt)
theorem RowB.drewN (h : RowB W b ls) (n : Nat) : RowB (W.drewN n) b ls := h
end
set_option maxRecDepth 10000 in
theorem btw_is (n lo hi : Int) (b : Bool) (w : World) (h : (decide (lo ≤ n) && decide (n ≤ hi)) = b) : Calls Try.prog 58 #[.int .i64 n, .int .i64 lo, .int .i64 hi] w fun e w' => e = .returned (.bool b) ∧ w = w' := by
  subst h
  by_cases h1 : lo ≤ n
  · by_cases h2 : n ≤ hi
    · go_enter Try.func58, Try.ntmps58
      go_wp2
      go_ret
      exact ⟨ret_bool (by simp [h1, h2]), rfl⟩
    · go_enter Try.func58, Try.ntmps58
      go_wp2
      go_ret
      exact ⟨ret_bool (by simp [h2]), rfl⟩
  · go_enter Try.func58, Try.ntmps58
    go_wp2
    go_ret
    exact ⟨ret_bool (by simp; intro; omega), rfl⟩
end Go.Proofs.Ytnmhiagnmfpipaa
