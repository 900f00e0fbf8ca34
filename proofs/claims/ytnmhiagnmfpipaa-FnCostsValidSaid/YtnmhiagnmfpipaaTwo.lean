/-
  Bytes and bits: the code, its model, the exact laws, walked. No condition.
-/
import Derived.Test.YtnmhiagnmfpipaaPackBytes
import Derived.Test.YtnmhiagnmfpipaaOne
namespace Go.Proofs.Ytnmhiagnmfpipaa
open Go.RowKit

set_option maxRecDepth 10000 in
theorem Try.infoByte : (Try.prog.info? 5).map (fun i => (i.zero, i.size, i.bytes)) = some (some (.int .u8 0), 1, 1) := by kernel_rfl

/-- The bits of bytes, or none for too many bytes. -/
def bobOr (ds : List Int) : List Int := if bytesOk ds then bitList (bytesF ds ds.length) (ds.length * 8) else []
def packOk (xs : List Int) : Bool := bitsOk xs && decide (xs.length % 8 = 0)
def yobOr (xs : List Int) : List Int := if packOk xs then byteList (bitsF xs xs.length) (xs.length / 8) else []
/-- What a call leaves that returns a new list of bytes and whether there is one. -/
def BytesPost (ys : List Int) (ok : Bool) (w : World) (e : Ending) (w' : World) : Prop :=
  ∃ a cap, e = .returned (.tuple #[.slice a ys.length cap, .bool ok]) ∧ OwnInts .u8 5 w' w.heap.size a ys ∧ Below w.heap.size w w'
theorem bytesPost_nil {ok : Bool} {w w' : World} (h : Below w.heap.size w w') : BytesPost [] ok w (.returned (.tuple #[.slice none 0 0, .bool ok])) w' := ⟨none, 0, rfl, fun h => absurd rfl h, h⟩
set_option maxRecDepth 10000 in
theorem bytesPost_row {xs : List Int} {ok : Bool} {w w' : World} {b n : Nat} (hr : w'.rowIs b 5 n (fun i => .int .u8 (el xs i))) (hn : n = xs.length) (hb : w.heap.size ≤ b) (h : Below w.heap.size w w') :
    BytesPost xs ok w (.returned (.tuple #[.slice (some ⟨b, 0, none⟩) n n, .bool ok])) w' := by
  subst hn
  exact ⟨_, _, rfl, fun _ => ⟨b, _, rfl, hb, Nat.le_refl _, _, hr, fun _ _ => rfl⟩, h⟩

theorem one_blk {w1 W : World} {z cs : Array Value} {t : TypeId} {fr : Nat × Nat} (h : Hid (W = (w1.alloc (.cells z t fr)).setRow w1.heap.size cs)) : W.heap[w1.heap.size]? = some (.cells cs t fr) := by
  rw [h.out]; exact setRow_heap _ _ _ _ _ _ (heap_alloc_last _ _)
theorem below_one {w w1 W : World} {z cs : Array Value} {t : TypeId} {fr : Nat × Nat} (hb : Below w.heap.size w w1) (h : Hid (W = (w1.alloc (.cells z t fr)).setRow w1.heap.size cs)) : Below w.heap.size w W := by
  rw [h.out]; exact below_setRow (hb.alloc hb.size _) hb.size _
theorem size_one {w1 W : World} {z cs : Array Value} {t : TypeId} {fr : Nat × Nat} (h : Hid (W = (w1.alloc (.cells z t fr)).setRow w1.heap.size cs)) : w1.heap.size < W.heap.size := by
  rw [h.out]; simp

set_option maxRecDepth 10000 in
theorem len_cell {W : World} {g n : Nat} {cs : Array Value} {P : Nat → Nat} (hg : W.heap[g]? = some (.cells cs 75 (0, 0))) (hp : IsPack cs P n) : W.cell? ⟨g, 16, none⟩ = some (.int .i64 n) := by
  rw [← hp.2.2]; exact cell_of_row _ _ _ _ _ _ hg
theorem div_bit (v j : Nat) : ((v : Int) / 2 ^ j) % 2 = ((v.testBit j).toNat : Int) := by
  have h2 : ((v : Int) / 2 ^ j) = ((v / 2 ^ j : Nat) : Int) := by rw [Int.natCast_ediv, Int.natCast_pow]; rfl
  rw [h2, Nat.testBit_eq_decide_div_mod_eq]
  rcases Nat.mod_two_eq_zero_or_one (v / 2 ^ j) with h | h <;> simp [h] <;> omega
theorem bytesF_at {ds : List Int} {k j v : Nat} (hk : k < ds.length) (hj : j < 8) (hv : v = (el ds k).toNat) : bytesF ds ds.length (8 * k + (7 - j)) = v.testBit j := by
  unfold bytesF
  rw [show (8 * k + (7 - j)) / 8 = k by omega, show 7 - (8 * k + (7 - j)) % 8 = j by omega, ← hv, decide_eq_true (by omega), Bool.true_and]

def Idx (q : Nat) (i : Value) : Prop := (q = 0 ∧ i = .int .i64 (-1)) ∨ ∃ j : Nat, q = j + 1 ∧ i = .int .i64 j
theorem idx_pred (j : Nat) : Idx j (.int .i64 ((j : Int) - 1)) := by
  cases j with
  | zero => exact .inl ⟨rfl, rfl⟩
  | succ i => exact .inr ⟨i, rfl, by congr 1; omega⟩
def Inner (ds : List Int) (w : World) (k : Nat) (q n : Nat) (v : Option Addr) (cap : Nat) (wr : World) : Prop :=
  n + q = 8 * k + 8 ∧ Grow .i64 3 wr w.heap.size v n cap (bitList (bytesF ds ds.length) n) ∧ Below w.heap.size w wr
set_option maxRecDepth 10000 in
theorem inner_step {ds : List Int} {w wr w2 : World} {k j n cap2 d : Nat} {a2 : Option Addr} {o : Obj} {x : Int} (hn : n + (j + 1) = 8 * k + 8) (hj : j < 8) (hf : bytesF ds ds.length (8 * k + (7 - j)) = d.testBit j)
    (hx : x = ((d.testBit j).toNat : Int)) (hg : Grow .i64 3 w2 w.heap.size a2 (n + 1) cap2 (bitList (bytesF ds ds.length) n ++ [x])) (hb : Below w.heap.size w wr) (hb2 : Below w.heap.size (wr.alloc o) w2) :
    Inner ds w k j (n + 1) a2 cap2 w2 := by
  refine ⟨by omega, ?_, (hb.alloc hb.size o).trans hb2⟩
  rw [bitList_succ, show n = 8 * k + (7 - j) by omega, hf, ← hx, ← show n = 8 * k + (7 - j) by omega]
  exact hg
theorem bit_val (d j : Nat) (hd : d < 256) : (wrap64 ((d : Int) / 2 ^ j)).tmod 2 = ((d.testBit j).toNat : Int) := by
  rw [← div_bit]
  have h2 : ((d : Int) / 2 ^ j) = ((d / 2 ^ j : Nat) : Int) := by rw [Int.natCast_ediv, Int.natCast_pow]; rfl
  have hle : d / 2 ^ j ≤ d := Nat.div_le_self _ _
  rw [h2]
  generalize d / 2 ^ j = q at hle
  unfold wrap64
  rw [show ((q : Int) + 9223372036854775808) % 18446744073709551616 - 9223372036854775808 = q by omega, Int.tmod_eq_emod_of_nonneg (by omega)]
section
variable {w : World} {ops : Array Oper} {rest : List Oper} {o : Oper} {a : Act} {Q : Exit → Act → World → Prop}
set_option maxRecDepth 10000 in
theorem wpList_appendB (s x : Operand) (base : Nat) (A : Option Addr) (n cap : Nat) (xs : List Int) (ad : Addr) (v : Int)
    (hgd : o.guard = none) (ho : o.op = .call { callee := .builtin .append, args := #[s, x], argTypes := #[22, 22] }) (hs : a.eval s = .slice A n cap) (hx : a.eval x = .slice (some ad) 1 1)
    (hg : Grow .u8 5 w base A n cap xs) (hc : w.cell? ad = some (.int .u8 v)) (hn : n < 1099511627776) (hb : base ≤ w.heap.size)
    (h : ∀ a' cap' w', Grow .u8 5 w' base a' (n + 1) cap' (xs ++ [v]) → Below base w w' → wpList Try.prog ops Q rest (a.put o.dst (.slice a' (n + 1) cap')) w') : wpList Try.prog ops Q (o :: rest) a w := by
  obtain ⟨i0, hi0, hz0, hz1, hz2⟩ := info_parts Try.infoByte
  refine wpList_append_own w hgd s x _ ho base 5 i0 (.int .u8 0) 1 1 Try.underlying22 hi0 hz0 hz1 hz2 rfl (by omega) _ n _ hs hg ad 1 1 [.int .u8 v] hx rfl ?_ (by simp [Value.oneCell']) (by unfold maxLen; omega) (by omega) hb ?_
  · intro j u hj
    match j, hj with
    | 0, hj => simp at hj; subst hj; simpa [Addr.add] using hc
  · intro v' w' h2 h3 _
    obtain ⟨a', cap', rfl, hgr, hbl⟩ := grow_of_own hg hb h2 h3
    exact h _ _ _ hgr hbl
end
theorem byteList_succ (f : Nat → Bool) (k : Nat) : byteList f (k + 1) = byteList f k ++ [(msb f (8 * k) 8 : Int)] := by
  simp [byteList, List.range_succ]
set_option maxRecDepth 10000 in
theorem bytesPost_grow {xs : List Int} {ok : Bool} {w w' : World} {a : Option Addr} {n cap : Nat} (h : Grow .u8 5 w' w.heap.size a n cap xs) (hb : Below w.heap.size w w') : BytesPost xs ok w (.returned (.tuple #[.slice a n cap, .bool ok])) w' := by
  have hl := h.len
  refine ⟨a, cap, by rw [hl], fun hne => ?_, hb⟩
  have hp : 0 < n := by rw [← hl]; exact List.length_pos_iff.2 hne
  obtain ⟨b, f, rfl, h1, _, h3, h4, h5⟩ := h.row hp
  exact ⟨b, cap, rfl, h1, by omega, f, h4, fun i hi => h5 i (by omega)⟩
theorem bitsF_val {xs : List Int} (h : bitsOk xs = true) {j : Nat} (hj : j < xs.length) : el xs j = ((bitsF xs xs.length j).toNat : Int) := by
  unfold bitsF
  rcases bit_cases h hj with e | e <;> rw [e] <;> simp [hj]

theorem isByte_of_wf {xs : List Int} (h : ∀ n ∈ xs, (Lit.int .u8 n).wf = true) : ∀ n ∈ xs, isByte n := fun n hn => by
  have := h n hn
  simp [Lit.wf, IntKind.min, IntKind.max, IntKind.signed, IntKind.bits] at this
  exact ⟨this.1, by omega⟩
theorem bobOr_length (ds : List Int) : (bobOr ds).length ≤ 1048576 := by
  unfold bobOr; split
  · next h => rw [bitList_length]; have : ds.length ≤ 128 := by simpa [bytesOk] using h
              omega
  · simp
theorem yobOr_length (xs : List Int) (h : xs.length ≤ 1048576) : (yobOr xs).length ≤ 1048576 := by
  unfold yobOr; split
  · rw [byteList_length]; omega
  · simp
set_option maxRecDepth 10000 in
theorem own_of_bytes {w w' : World} {a : Option Addr} {xs : List Int} (h : OwnInts .u8 5 w' w.heap.size a xs) : Own .u8 5 w' w.heap.size w'.heap.size a xs := fun hne => by
  obtain ⟨b, cap, e, h1, h2, f, h4, h5⟩ := h hne
  exact ⟨b, cap, f, e, h1, h4.lt, h2, h4, h5⟩
end Go.Proofs.Ytnmhiagnmfpipaa
