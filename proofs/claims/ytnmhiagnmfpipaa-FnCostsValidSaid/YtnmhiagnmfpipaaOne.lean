/-
  Models of the bit functions, their exact laws for lists of integers, and lists of a call's own, walked. No condition.
-/
import Derived.Test.YtnmhiagnmfpipaaImpl2
import Derived.Test.YtnmhiagnmfpipaaGrow
import Derived.Test.YtnmhiagnmfpipaaMarks
namespace Go.Proofs.Ytnmhiagnmfpipaa
open Go.RowKit

theorem bit_cases {xs : List Int} (h : bitsOk xs = true) {k : Nat} (hk : k < xs.length) : el xs k = 0 ∨ el xs k = 1 := by
  simp only [bitsOk, Bool.and_eq_true, List.all_eq_true] at h
  have := h.2 _ (el_mem hk)
  simpa [isBit] using this
theorem xor00 : bits .xor .i64 0 0 = 0 := by kernel_rfl
theorem xor01 : bits .xor .i64 0 1 = 1 := by kernel_rfl
theorem xor10 : bits .xor .i64 1 0 = 1 := by kernel_rfl
theorem xor11 : bits .xor .i64 1 1 = 0 := by kernel_rfl
theorem xor_el {xs ys : List Int} (h : pairOk xs ys = true) {k : Nat} (hk : k < xs.length) : bits .xor .i64 (el xs k) (el ys k) = ((xorF xs ys k).toNat : Int) := by
  obtain ⟨h1, h2, h3⟩ := pairOk_parts h
  have a1 := bit_cases h1 hk
  have a2 := bit_cases h2 (k := k) (by omega)
  unfold xorF bitsF
  rcases a1 with e1 | e1 <;> rcases a2 with e2 | e2 <;> rw [e1, e2] <;> simp [hk, xor00, xor01, xor10, xor11]

theorem bitList_succ (f : Nat → Bool) (k : Nat) : bitList f (k + 1) = bitList f k ++ [((f k).toNat : Int)] := by
  simp only [bitList, List.range_succ, List.map_append, List.map_cons, List.map_nil]
  cases f k <;> rfl
set_option maxRecDepth 10000 in
theorem listPost_grow {xs : List Int} {w w' : World} {a : Option Addr} {n cap : Nat} (h : Grow .i64 3 w' w.heap.size a n cap xs) (hb : Below w.heap.size w w') : ListPost xs w (.returned (.slice a n cap)) w' := by
  have hl := h.len
  refine ⟨a, cap, by rw [hl], fun hne => ?_, hb⟩
  have hp : 0 < n := by rw [← hl]; exact List.length_pos_iff.2 hne
  obtain ⟨b, f, rfl, h1, _, h3, h4, h5⟩ := h.row hp
  exact ⟨b, cap, rfl, h1, by omega, f, h4, fun i hi => h5 i (by omega)⟩
theorem Grow.room {k : IntKind} {t : TypeId} {w : World} {base n cap : Nat} {a : Option Addr} {xs : List Int} (h : Grow k t w base a n cap xs) : n ≤ cap ∧ cap ≤ maxLen := by
  rcases h.2 with ⟨e, h0⟩ | ⟨g, c, cur, e, hg, hh, hnc, hcm, _⟩
  · injection e with _ _ e3; rw [h0, e3]; exact ⟨Nat.le_refl _, Nat.zero_le _⟩
  · injection e with _ _ e3; rw [e3]; exact ⟨hnc, hcm⟩
set_option maxRecDepth 10000 in
theorem listPostC_grow {xs : List Int} {w w' : World} {a : Option Addr} {n cap : Nat} (h : Grow .i64 3 w' w.heap.size a n cap xs) (hb : Below w.heap.size w w') : ListPostC xs w (.returned (.slice a n cap)) w' := by
  have hr := h.room
  have hl := h.len
  refine ⟨a, cap, by rw [hl], ⟨by rw [hl]; exact hr.1, hr.2⟩, fun hne => ?_, hb⟩
  have hp : 0 < n := by rw [← hl]; exact List.length_pos_iff.2 hne
  obtain ⟨b, f, rfl, h1, _, h3, h4, h5⟩ := h.row hp
  exact ⟨b, cap, rfl, h1, by omega, f, h4, fun i hi => h5 i (by omega)⟩

theorem Ints.next {k : IntKind} {w w' : World} {a : Option Addr} {xs : List Int} (h : Ints k w w.heap.size a xs) (hb : Below w.heap.size w w') : Ints k w' w'.heap.size a xs := (h.below hb).more hb.size
theorem Below.next {B : Nat} {w w' w'' : World} (h : Below B w w') (hB : B ≤ w.heap.size) (h' : Below w'.heap.size w' w'') : Below B w w'' := h.trans (h'.mono (Nat.le_trans hB h.size))
theorem toIntS_ints (a : Option Addr) (c : Nat) (xs : List Int) (w : World) (hx : Ints .i64 w w.heap.size a xs) (hl : xs.length ≤ 1048576) :
    Calls Try.prog 61 #[.slice a xs.length c] w fun e w' => e = .returned (.slice (some ⟨w.heap.size, 0, none⟩) xs.length xs.length) ∧
      Ints .i64 w' w'.heap.size (some ⟨w.heap.size, 0, none⟩) xs ∧ Below w.heap.size w w' :=
  (toIntS_any a c w.heap.size xs w hx (Nat.le_refl _) hl).mono fun _ _ ⟨h1, h2, h3⟩ => ⟨h1, ints_of_row h2 rfl h2.lt, h3⟩

/-- The list xs lies in a block of its own from B on and before C; it may be written. -/
def Own (k : IntKind) (t : TypeId) (w : World) (B C : Nat) (a : Option Addr) (xs : List Int) : Prop :=
  xs ≠ [] → ∃ b cap f, a = some ⟨b, 0, none⟩ ∧ B ≤ b ∧ b < C ∧ xs.length ≤ cap ∧ w.rowIs b t cap f ∧ ∀ i, i < xs.length → f i = .int k (el xs i)
/-- Outside the blocks from B on and before C the world is as it was. -/
structure KeptOut (B C : Nat) (w w' : World) : Prop where
  os : w'.os = w.os
  tape : w'.tape = w.tape
  output : w'.output = w.output
  size : w.heap.size ≤ w'.heap.size
  block : ∀ j, j < w.heap.size → (j < B ∨ C ≤ j) → w'.heap[j]? = w.heap[j]?
theorem KeptOut.refl (B C : Nat) (w : World) : KeptOut B C w w := ⟨rfl, rfl, rfl, Nat.le_refl _, fun _ _ _ => rfl⟩
theorem KeptOut.below {B C : Nat} {w w' : World} (h : KeptOut B C w w') (hB : B ≤ w.heap.size) : Below B w w' := ⟨h.os, h.tape, h.output, h.size, fun j hj => h.block j (by omega) (.inl hj)⟩
theorem KeptOut.of_grown {B C b : Nat} {w w' : World} (h : w.grownBy w' (some b)) (h1 : B ≤ b) (h2 : b < C) : KeptOut B C w w' :=
  ⟨h.os, h.tape, h.output, h.size, fun j hj ho => h.block j hj (fun e => by injection e; omega)⟩
theorem KeptOut.of_below {B C : Nat} {w w' : World} (h : Below w.heap.size w w') : KeptOut B C w w' := ⟨h.os, h.tape, h.output, h.size, fun j hj _ => h.block j hj⟩

section
variable {k : IntKind} {t : TypeId} {w w' : World} {B C D E : Nat} {a : Option Addr} {xs : List Int}
theorem Own.keep (h : Own k t w B C a xs) (hk : KeptOut D E w w') (hd : C ≤ D ∨ E ≤ B) : Own k t w' B C a xs := fun hne => by
  obtain ⟨b, cap, f, e, h1, h2, h3, h4, h5⟩ := h hne
  exact ⟨b, cap, f, e, h1, h2, h3, h4.of_block (hk.block b h4.lt (by omega)), h5⟩
theorem Own.next (h : Own k t w B C a xs) (hb : Below w.heap.size w w') : Own k t w' B C a xs := h.keep (KeptOut.of_below (B := C) (C := C) hb) (.inl (Nat.le_refl _))
theorem Own.drewN (h : Own k t w B C a xs) (n : Nat) : Own k t (w.drewN n) B C a xs := h
theorem Own.ints (h : Own k t w B C a xs) : Ints k w C a xs := fun hne => by
  obtain ⟨b, cap, f, e, h1, h2, h3, h4, h5⟩ := h hne
  exact ⟨b, 0, e, h2, fun i hi => by rw [Nat.zero_add, h4.cell (by omega), h5 i hi]⟩
theorem Ints.out (h : Ints k w B a xs) (hk : KeptOut D E w w') (hd : B ≤ D) (hB : B ≤ w.heap.size) : Ints k w' B a xs :=
  h.below ⟨hk.os, hk.tape, hk.output, hk.size, fun j hj => hk.block j (by omega) (.inl (by omega))⟩
end
theorem own_of_row {k : IntKind} {t : TypeId} {w : World} {b n C : Nat} {xs : List Int} (h : w.rowIs b t n (fun i => .int k (el xs i))) (hn : n = xs.length) (hC : b < C) : Own k t w b C (some ⟨b, 0, none⟩) xs := fun _ =>
  ⟨b, n, _, rfl, Nat.le_refl _, hC, by omega, h, fun _ _ => rfl⟩
theorem own_of_list {t : TypeId} {w w' : World} {a : Option Addr} {xs : List Int} (h : OwnInts .i64 t w' w.heap.size a xs) : Own .i64 t w' w.heap.size w'.heap.size a xs := fun hne => by
  obtain ⟨b, cap, e, h1, h2, f, h4, h5⟩ := h hne
  exact ⟨b, cap, f, e, h1, h4.lt, h2, h4, h5⟩
theorem Ints.upto {k : IntKind} {w : World} {B : Nat} {a : Option Addr} {xs : List Int} (h : Ints k w B a xs) (hB : B ≤ w.heap.size) : Ints k w w.heap.size a xs := h.more hB

theorem toIntS_own (a : Option Addr) (c : Nat) (xs : List Int) (w : World) (hx : Ints .i64 w w.heap.size a xs) (hl : xs.length ≤ 1048576) :
    Calls Try.prog 61 #[.slice a xs.length c] w fun e w' => ∃ v, e = .returned (.slice v xs.length xs.length) ∧ Own .i64 3 w' w.heap.size w'.heap.size v xs ∧ Below w.heap.size w w' :=
  (toIntS_any a c w.heap.size xs w hx (Nat.le_refl _) hl).mono fun _ _ ⟨h1, h2, h3⟩ => ⟨_, h1, own_of_row h2 rfl h2.lt, h3⟩
set_option maxRecDepth 10000 in
theorem markIntS_own {t : TypeId} (a : Option Addr) (c k0 B C : Nat) (xs : List Int) (w : World) (h : Own .i64 t w B C a xs) (hl : xs.length ≤ 1048576) (hk : k0 ≤ 1073741824) :
    Calls Try.prog 39 #[.slice a xs.length c, .int .i64 k0] w fun e w' => e = .returned (.int .i64 (k0 + xs.length : Nat)) ∧ Own .i64 t w' B C a (marks k0 xs.length) ∧ KeptOut B C w w' := by
  by_cases hne : xs = []
  · subst hne
    exact (markIntS_nil a c k0 w).mono fun _ _ ⟨h1, h2⟩ => ⟨h1, fun hm => absurd (by simp [marks]) hm, h2 ▸ KeptOut.refl _ _ _⟩
  · obtain ⟨b, cap, f, rfl, h1, h2, h3, h4, h5⟩ := h hne
    refine (markIntS_row b cap c xs.length k0 f w h4 h3 hl hk).mono fun _ _ ⟨e1, e2, e3⟩ => ⟨e1, fun _ => ⟨b, cap, _, rfl, h1, h2, by rw [marks_length]; exact h3, e2, fun i hi => ?_⟩, KeptOut.of_grown e3 h1 h2⟩
    rw [marks_length] at hi
    simp only [hi, if_true]
    rw [marks_el _ _ _ hi]
end Go.Proofs.Ytnmhiagnmfpipaa
