/-
  What HammingDistance and AddBits answer, for every two lists.
-/
import Derived.Test.YtkigjnjbjbnidabPair
import Derived.Test.YtkigjnjbjbnidabList1
import Derived.Test.YtkigjnjbjbnidabPackBits
import Derived.Test.YtkigjnjbjbnidabToInts
namespace Go.Proofs.Ytkigjnjbjbnidab
open Go.RowKit

/-- In which places two lists of bits differ. -/
def xorF (xs ys : List Int) (j : Nat) : Bool := bitsF xs xs.length j != bitsF ys xs.length j
def dist (xs ys : List Int) : Nat := cnt (xorF xs ys) xs.length
def sumBits (xs ys : List Int) : List Int := bitList (xorF xs ys) xs.length
def sumOr (xs ys : List Int) : List Int := if pairOk xs ys then sumBits xs ys else []
def distOr (xs ys : List Int) : Int := if pairOk xs ys then dist xs ys else -1

theorem packed_xor {P Q : Nat → Nat} {f g : Nat → Bool} (hp : Packed P f) (hq : Packed Q g) : Packed (fun j => P j ^^^ Q j) (fun j => f j != g j) :=
  ⟨fun i hi => Nat.xor_lt_two_pow (hp.1 i hi) (hq.1 i hi), fun j hj => by
    show (P (j / 64) ^^^ Q (j / 64)).testBit (63 - j % 64) = _
    rw [Nat.testBit_xor, hp.2 j hj, hq.2 j hj]⟩
theorem onesSum_packed {R : Nat → Nat} {F : Nat → Bool} (h : Packed R F) : ∀ m, m ≤ 16 → onesSum R m = cnt F (64 * m)
  | 0, _ => rfl
  | m + 1, hm => by
    rw [Nat.mul_add, Nat.mul_one, cnt_add, ← onesSum_packed h m (by omega)]
    simp only [onesSum]
    congr 1
    rw [← cnt_rev (R m).testBit 64]
    refine cnt_congr fun i hi => ?_
    have := h.2 (64 * m + i) (by omega)
    rw [show (64 * m + i) / 64 = m by omega, show (64 * m + i) % 64 = i by omega] at this
    exact this
theorem bitsF_out (xs : List Int) (n j : Nat) (h : n ≤ j) : bitsF xs n j = false := by simp [bitsF]; omega
theorem cnt_xor (xs ys : List Int) (hl : xs.length ≤ 1024) : cnt (xorF xs ys) 1024 = dist xs ys := by
  unfold dist
  obtain ⟨d, hd⟩ : ∃ d, 1024 = xs.length + d := ⟨1024 - xs.length, by omega⟩
  rw [hd, cnt_add, cnt_false (F := fun j => xorF xs ys (xs.length + j)), Nat.add_zero]
  intro i _
  simp [xorF, bitsF_out xs xs.length (xs.length + i) (by omega), bitsF_out ys xs.length (xs.length + i) (by omega)]
theorem ones_xor {P Q : Nat → Nat} {xs ys : List Int} (hp : Packed P (bitsF xs xs.length)) (hq : Packed Q (bitsF ys xs.length)) (hl : xs.length ≤ 1024) :
    onesSum (fun j => P j ^^^ Q j) 16 = dist xs ys := by
  rw [← cnt_xor xs ys hl]
  exact onesSum_packed (packed_xor hp hq) 16 (Nat.le_refl _)
theorem bitsOk_length {xs : List Int} (h : bitsOk xs = true) : xs.length ≤ 1024 := by
  simp [bitsOk] at h; exact h.1
theorem pairOk_parts {xs ys : List Int} (h : pairOk xs ys = true) : bitsOk xs = true ∧ bitsOk ys = true ∧ xs.length = ys.length := by
  simp [pairOk] at h; exact ⟨h.1.1, h.1.2, h.2⟩

section
variable {w w1 W0 W1 : World} {z z' cs cs' : Array Value} {t : TypeId} {fr : Nat × Nat}
theorem two_mid (h : Hid (W0 = ((w1.alloc (.cells z t fr)).alloc (.cells z' t fr)).setRow w1.heap.size cs)) : W0.heap[w1.heap.size + 1]? = some (.cells z' t fr) := by
  rw [h.out]; exact (setRow_other _ _ _ _ (by omega)).trans (heap_last2 _ _ _)
theorem two_fst (h : Hid (W0 = ((w1.alloc (.cells z t fr)).alloc (.cells z' t fr)).setRow w1.heap.size cs)) (h' : Hid (W1 = W0.setRow (w1.heap.size + 1) cs')) : W1.heap[w1.heap.size]? = some (.cells cs t fr) := by
  rw [h'.out, h.out]; exact (setRow_other _ _ _ _ (by omega)).trans (setRow_heap _ _ _ _ _ _ (heap_prev2 _ _ _))
theorem two_snd (h : Hid (W0 = ((w1.alloc (.cells z t fr)).alloc (.cells z' t fr)).setRow w1.heap.size cs)) (h' : Hid (W1 = W0.setRow (w1.heap.size + 1) cs')) : W1.heap[w1.heap.size + 1]? = some (.cells cs' t fr) := by
  rw [h'.out]; exact setRow_heap _ _ _ _ _ _ (two_mid h)
theorem below_two (hb : Below w.heap.size w w1) (h : Hid (W0 = ((w1.alloc (.cells z t fr)).alloc (.cells z' t fr)).setRow w1.heap.size cs)) (h' : Hid (W1 = W0.setRow (w1.heap.size + 1) cs')) : Below w.heap.size w W1 := by
  have := hb.size
  rw [h'.out, h.out]
  exact below_setRow (below_setRow ((hb.alloc hb.size _).alloc (by simp; omega) _) hb.size _) (by omega) _
end
/-- A list of integers in memory of its own: from block B on, not frozen. -/
def OwnInts (k : IntKind) (t : TypeId) (w : World) (B : Nat) (a : Option Addr) (xs : List Int) : Prop :=
  xs ≠ [] → ∃ b cap, a = some ⟨b, 0, none⟩ ∧ B ≤ b ∧ xs.length ≤ cap ∧ ∃ f : Nat → Value, w.rowIs b t cap f ∧ ∀ i, i < xs.length → f i = .int k (el xs i)
/-- What a call leaves that returns a new list. -/
def ListPost (xs : List Int) (w : World) (e : Ending) (w' : World) : Prop :=
  ∃ a cap, e = .returned (.slice a xs.length cap) ∧ OwnInts .i64 3 w' w.heap.size a xs ∧ Below w.heap.size w w'
/-- The same, and the slice's room is known. -/
def ListPostC (xs : List Int) (w : World) (e : Ending) (w' : World) : Prop :=
  ∃ a cap, e = .returned (.slice a xs.length cap) ∧ (xs.length ≤ cap ∧ cap ≤ maxLen) ∧ OwnInts .i64 3 w' w.heap.size a xs ∧ Below w.heap.size w w'
theorem ListPostC.post {xs : List Int} {w w' : World} {e : Ending} (h : ListPostC xs w e w') : ListPost xs w e w' := by
  obtain ⟨a, cap, h1, _, h3, h4⟩ := h
  exact ⟨a, cap, h1, h3, h4⟩
theorem listPostC_nil {w w' : World} (h : Below w.heap.size w w') : ListPostC [] w (.returned (.slice none 0 0)) w' := ⟨none, 0, rfl, ⟨Nat.le_refl _, Nat.zero_le _⟩, fun h => absurd rfl h, h⟩
theorem listPostC_row {xs : List Int} {w w' : World} {b n : Nat} (hr : w'.rowIs b 3 n (fun i => .int .i64 (el xs i))) (hn : n = xs.length) (hm : n ≤ maxLen) (hb : w.heap.size ≤ b) (h : Below w.heap.size w w') :
    ListPostC xs w (.returned (.slice (some ⟨b, 0, none⟩) n n)) w' := by
  subst hn
  exact ⟨_, _, rfl, ⟨Nat.le_refl _, hm⟩, fun _ => ⟨b, _, rfl, hb, Nat.le_refl _, _, hr, fun _ _ => rfl⟩, h⟩
theorem listPost_nil {w w' : World} (h : Below w.heap.size w w') : ListPost [] w (.returned (.slice none 0 0)) w' := ⟨none, 0, rfl, fun h => absurd rfl h, h⟩
theorem listPost_row {xs : List Int} {w w' : World} {b n : Nat} (hr : w'.rowIs b 3 n (fun i => .int .i64 (el xs i))) (hn : n = xs.length) (hb : w.heap.size ≤ b) (h : Below w.heap.size w w') :
    ListPost xs w (.returned (.slice (some ⟨b, 0, none⟩) n n)) w' := by
  subst hn
  exact ⟨_, _, rfl, fun _ => ⟨b, _, rfl, hb, Nat.le_refl _, _, hr, fun _ _ => rfl⟩, h⟩

end Go.Proofs.Ytkigjnjbjbnidab
