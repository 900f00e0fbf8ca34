/-
  What HammingDistance and AddBits answer, for every two lists.
-/
import Derived.Test.YtnmhiagnmfpipaaPair
import Derived.Test.YtnmhiagnmfpipaaList1
import Derived.Test.YtnmhiagnmfpipaaPackBits
import Derived.Test.YtnmhiagnmfpipaaToInts
namespace Go.Proofs.Ytnmhiagnmfpipaa
open Go.RowKit

/-- In which places two lists of bits differ. -/
def xorF (xs ys : List Int) (j : Nat) : Bool := bitsF xs xs.length j != bitsF ys xs.length j
def dist (xs ys : List Int) : Nat := cnt (xorF xs ys) xs.length
def sumBits (xs ys : List Int) : List Int := bitList (xorF xs ys) xs.length
def sumOr (xs ys : List Int) : List Int := if pairOk xs ys then sumBits xs ys else []
def distOr (xs ys : List Int) : Int := if pairOk xs ys then dist xs ys else -1

theorem packed_xor {P Q : Nat → Nat} {f g : Nat → Bool} (hp : Packed P f) (hq : Packed Q g) : Packed (fun j => P j ^^^ Q j) (fun j => f j != g j) :=
  ⟨fun i hi => Nat.xor_lt_two_pow (hp.1 i hi) (hq.1 i hi), fun j hj => by
    show (P (j / 64) ^^^ Q (j / 64)).testBit (63 - j % 64) = _
    rw [Nat.testBit_xor, hp.2 j hj, hq.2 j hj]⟩
theorem onesSum_packed {R : Nat → Nat} {F : Nat → Bool} (h : Packed R F) : ∀ m, m ≤ 16 → onesSum R m = cnt F (64 * m)
  | 0, _ => rfl
  | m + 1, hm => by
    rw [Nat.mul_add, Nat.mul_one, cnt_add, ← onesSum_packed h m (by omega)]
    simp only [onesSum]
    congr 1
    rw [← cnt_rev (R m).testBit 64]
    refine cnt_congr fun i hi => ?_
    have := h.2 (64 * m + i) (by omega)
    rw [show (64 * m + i) / 64 = m by omega, show (64 * m + i) % 64 = i by omega] at this
    exact this
theorem bitsF_out (xs : List Int) (n j : Nat) (h : n ≤ j) : bitsF xs n j = false := by simp [bitsF]; omega
theorem cnt_xor (xs ys : List Int) (hl : xs.length ≤ 1024) : cnt (xorF xs ys) 1024 = dist xs ys := by
  unfold dist
  obtain ⟨d, hd⟩ : ∃ d, 1024 = xs.length + d := ⟨1024 - xs.length, by omega⟩
  rw [hd, cnt_add, cnt_false (F := fun j => xorF xs ys (xs.length + j)), Nat.add_zero]
  intro i _
  simp [xorF, bitsF_out xs xs.length (xs.length + i) (by omega), bitsF_out ys xs.length (xs.length + i) (by omega)]
theorem ones_xor {P Q : Nat → Nat} {xs ys : List Int} (hp : Packed P (bitsF xs xs.length)) (hq : Packed Q (bitsF ys xs.length)) (hl : xs.length ≤ 1024) :
    onesSum (fun j => P j ^^^ Q j) 16 = dist xs ys := by
  rw [← cnt_xor xs ys hl]
  exact onesSum_packed (packed_xor hp hq) 16 (Nat.le_refl _)
theorem bitsOk_length {xs : List Int} (h : bitsOk xs = true) : xs.length ≤ 1024 := by
  simp [bitsOk] at h; exact h.1
theorem pairOk_parts {xs ys : List Int} (h : pairOk xs ys = true) : bitsOk xs = true ∧ bitsOk ys = true ∧ xs.length = ys.length := by
  simp [pairOk] at h; exact ⟨h.1.1, h.1.2, h.2⟩

theorem store_abs {ops : Array Oper} {rest : List Oper} {o : Oper} {a : Act} {w : World} {Q : Exit → Act → World → Prop} (x y : Operand) (g : Nat) (cells old : Array Value)
    (hg : w.heap[g]? = some (.cells old 75 (0, 0))) (hs : cells.size = 17) (hold : old.size = 17) (h1 : cells.all (·.oneCell') = true)
    (hgd : o.guard = none) (ho : o.op = .store 75 x y) (hx : a.eval x = .pointer (some ⟨g, 0, none⟩)) (hy : a.eval y = .agg cells)
    (h : ∀ W, Hid (W = w.setRow g cells) → wpList Try.prog ops Q rest (a.put o.dst undef) W) : wpList Try.prog ops Q (o :: rest) a w :=
  store_pack x y g cells old hg hs hold h1 hgd ho hx hy (h _ rfl)
section
variable {w w1 W0 W1 : World} {z z' cs cs' : Array Value} {t : TypeId} {fr : Nat × Nat}
theorem two_mid (h : Hid (W0 = ((w1.alloc (.cells z t fr)).alloc (.cells z' t fr)).setRow w1.heap.size cs)) : W0.heap[w1.heap.size + 1]? = some (.cells z' t fr) := by
  rw [h.out]; exact (setRow_other _ _ _ _ (by omega)).trans (heap_last2 _ _ _)
theorem two_fst (h : Hid (W0 = ((w1.alloc (.cells z t fr)).alloc (.cells z' t fr)).setRow w1.heap.size cs)) (h' : Hid (W1 = W0.setRow (w1.heap.size + 1) cs')) : W1.heap[w1.heap.size]? = some (.cells cs t fr) := by
  rw [h'.out, h.out]; exact (setRow_other _ _ _ _ (by omega)).trans (setRow_heap _ _ _ _ _ _ (heap_prev2 _ _ _))
theorem two_snd (h : Hid (W0 = ((w1.alloc (.cells z t fr)).alloc (.cells z' t fr)).setRow w1.heap.size cs)) (h' : Hid (W1 = W0.setRow (w1.heap.size + 1) cs')) : W1.heap[w1.heap.size + 1]? = some (.cells cs' t fr) := by
  rw [h'.out]; exact setRow_heap _ _ _ _ _ _ (two_mid h)
theorem below_two (hb : Below w.heap.size w w1) (h : Hid (W0 = ((w1.alloc (.cells z t fr)).alloc (.cells z' t fr)).setRow w1.heap.size cs)) (h' : Hid (W1 = W0.setRow (w1.heap.size + 1) cs')) : Below w.heap.size w W1 := by
  have := hb.size
  rw [h'.out, h.out]
  exact below_setRow (below_setRow ((hb.alloc hb.size _).alloc (by simp; omega) _) hb.size _) (by omega) _
end
/-- A list of integers in memory of its own: from block B on, not frozen. -/
def OwnInts (k : IntKind) (t : TypeId) (w : World) (B : Nat) (a : Option Addr) (xs : List Int) : Prop :=
  xs ≠ [] → ∃ b cap, a = some ⟨b, 0, none⟩ ∧ B ≤ b ∧ xs.length ≤ cap ∧ ∃ f : Nat → Value, w.rowIs b t cap f ∧ ∀ i, i < xs.length → f i = .int k (el xs i)
/-- What a call leaves that returns a new list. -/
def ListPost (xs : List Int) (w : World) (e : Ending) (w' : World) : Prop :=
  ∃ a cap, e = .returned (.slice a xs.length cap) ∧ OwnInts .i64 3 w' w.heap.size a xs ∧ Below w.heap.size w w'
/-- The same, and the slice's room is known. -/
def ListPostC (xs : List Int) (w : World) (e : Ending) (w' : World) : Prop :=
  ∃ a cap, e = .returned (.slice a xs.length cap) ∧ (xs.length ≤ cap ∧ cap ≤ maxLen) ∧ OwnInts .i64 3 w' w.heap.size a xs ∧ Below w.heap.size w w'
theorem ListPostC.post {xs : List Int} {w w' : World} {e : Ending} (h : ListPostC xs w e w') : ListPost xs w e w' := by
  obtain ⟨a, cap, h1, _, h3, h4⟩ := h
  exact ⟨a, cap, h1, h3, h4⟩
theorem listPostC_nil {w w' : World} (h : Below w.heap.size w w') : ListPostC [] w (.returned (.slice none 0 0)) w' := ⟨none, 0, rfl, ⟨Nat.le_refl _, Nat.zero_le _⟩, fun h => absurd rfl h, h⟩
set_option maxRecDepth 10000 in
theorem listPostC_row {xs : List Int} {w w' : World} {b n : Nat} (hr : w'.rowIs b 3 n (fun i => .int .i64 (el xs i))) (hn : n = xs.length) (hm : n ≤ maxLen) (hb : w.heap.size ≤ b) (h : Below w.heap.size w w') :
    ListPostC xs w (.returned (.slice (some ⟨b, 0, none⟩) n n)) w' := by
  subst hn
  exact ⟨_, _, rfl, ⟨Nat.le_refl _, hm⟩, fun _ => ⟨b, _, rfl, hb, Nat.le_refl _, _, hr, fun _ _ => rfl⟩, h⟩
theorem listPost_nil {w w' : World} (h : Below w.heap.size w w') : ListPost [] w (.returned (.slice none 0 0)) w' := ⟨none, 0, rfl, fun h => absurd rfl h, h⟩
set_option maxRecDepth 10000 in
theorem listPost_row {xs : List Int} {w w' : World} {b n : Nat} (hr : w'.rowIs b 3 n (fun i => .int .i64 (el xs i))) (hn : n = xs.length) (hb : w.heap.size ≤ b) (h : Below w.heap.size w w') :
    ListPost xs w (.returned (.slice (some ⟨b, 0, none⟩) n n)) w' := by
  subst hn
  exact ⟨_, _, rfl, fun _ => ⟨b, _, rfl, hb, Nat.le_refl _, _, hr, fun _ _ => rfl⟩, h⟩

set_option maxRecDepth 10000 in
set_option maxHeartbeats 1000000 in
theorem hamming_any (a a' : Option Addr) (c c' B B' : Nat) (xs ys : List Int) (w : World) (hx : Ints .i64 w B a xs) (hy : Ints .i64 w B' a' ys) (hB : B ≤ w.heap.size) (hB' : B' ≤ w.heap.size) :
    Calls Try.prog 46 #[.slice a xs.length c, .slice a' ys.length c'] w fun e w' => e = .returned (.int .i64 (distOr xs ys)) ∧ Below w.heap.size w w' := by
  go_enter Try.func46, Try.ntmps46
  go_wp2_with fail
  refine (packPair_any a a' c c' B B' xs ys w hx hy hB hB').mono ?_
  rintro e w1 ⟨cs, cs', P, Q, rfl, hok, s1, o1, s2, o2, hbel⟩
  have S1 := Lib.hid s1
  have O1 := Lib.hid o1
  have S2 := Lib.hid s2
  have O2 := Lib.hid o2
  have HB := Lib.hid hbel
  have HOk := Lib.hid hok
  have hsz : w.heap.size ≤ w1.heap.size := hbel.size
  clear hx hy s1 o1 s2 o2 hbel hok
  cases hpk : pairOk xs ys
  · have HPk := Lib.hid hpk
    clear HOk
    go_wp2_with (first | (refine store_abs (.tmp 5) (.tmp 12) w1.heap.size cs _ (heap_prev2 _ _ _) S1.out rfl O1.out rfl rfl rfl rfl ?_; intro W0 HW0) | (refine store_abs (.tmp 6) (.tmp 13) (w1.heap.size + 1) cs' _ (two_mid HW0) S2.out rfl O2.out rfl rfl rfl rfl ?_; intro W1 HW1))
    go_ret
    exact ⟨ret_int (by simp [distOr, HPk.out]), below_two HB.out HW0 HW1⟩
  · obtain ⟨p1, p2, q1, q2⟩ := HOk.out hpk
    have HPk := Lib.hid hpk
    have P1 := Lib.hid p1
    have P2 := Lib.hid p2
    have Q1 := Lib.hid q1
    have Q2 := Lib.hid q2
    have HE := Lib.hid (ones_xor p2 q2 (bitsOk_length (pairOk_parts hpk).1))
    clear HOk p1 p2 q1 q2
    go_wp2_with (first | (refine store_abs (.tmp 5) (.tmp 12) w1.heap.size cs _ (heap_prev2 _ _ _) S1.out rfl O1.out rfl rfl rfl rfl ?_; intro W0 HW0) | (refine store_abs (.tmp 6) (.tmp 13) (w1.heap.size + 1) cs' _ (two_mid HW0) S2.out rfl O2.out rfl rfl rfl rfl ?_; intro W1 HW1) | (refine load_pack (.tmp 5) w1.heap.size cs (two_fst HW0 HW1) S1.out rfl rfl rfl ?_) | (refine load_pack (.tmp 6) (w1.heap.size + 1) cs' (two_snd HW0 HW1) S2.out rfl rfl rfl ?_))
    refine (plus_any cs cs' P Q xs.length xs.length _ P1.out Q1.out P2.out.1 Q2.out.1).mono ?_
    rintro e w2 ⟨cs2, rfl, hp2, hb2⟩
    have HP2 := Lib.hid hp2
    have HB2 := Lib.hid ((below_two HB.out HW0 HW1).trans (hb2.mono (below_two HB.out HW0 HW1).size))
    clear hp2 hb2
    go_wp2_with fail
    refine (ones_any cs2 _ xs.length w2 HP2.out (packed_xor P2.out Q2.out).1).mono ?_
    rintro e w3 ⟨rfl, hb3⟩
    have HB3 := Lib.hid (HB2.out.trans (hb3.mono HB2.out.size))
    clear hb3
    go_wp2
    go_ret
    exact ⟨ret_int (by simp [distOr, HPk.out, HE.out]), HB3.out⟩

end Go.Proofs.Ytnmhiagnmfpipaa
