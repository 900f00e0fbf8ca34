/-
  What the model's comparison of two paths answers. Conditions: the second path is not used; or both are, and their bits, which can be read, are as many.
-/
import Derived.Test.YtnjjblcigcblhaaDoorStr5
namespace Go.Proofs.YtnjjblcigcblhaaDoor
open Go.RowKit

/-- A path by value. -/
def pathV (a : Option Addr) (n cap c : Nat) (u : Bool) : Value := .agg #[.slice a n cap, .int .i64 c, .bool u]
/-- The two boxes of the call. -/
def Boxes (w W : World) (a1 a2 : Option Addr) (n1 n2 cap1 cap2 c1 c2 : Nat) (u1 u2 : Bool) : Prop :=
  (W.cell? ⟨w.heap.size, 0, none⟩ = some (.slice a1 n1 cap1) ∧ W.cell? ⟨w.heap.size, 1, none⟩ = some (.int .i64 c1) ∧ W.cell? ⟨w.heap.size, 2, none⟩ = some (.bool u1)) ∧
  (W.cell? ⟨w.heap.size + 1, 0, none⟩ = some (.slice a2 n2 cap2) ∧ W.cell? ⟨w.heap.size + 1, 1, none⟩ = some (.int .i64 c2) ∧ W.cell? ⟨w.heap.size + 1, 2, none⟩ = some (.bool u2)) ∧ Below w.heap.size w W
theorem boxes_new (w : World) (a1 a2 : Option Addr) (n1 n2 cap1 cap2 c1 c2 : Nat) (u1 u2 : Bool) (t t' : TypeId) :
    Boxes w ((w.alloc (.cells #[.slice a1 n1 cap1, .int .i64 c1, .bool u1] t)).alloc (.cells #[.slice a2 n2 cap2, .int .i64 c2, .bool u2] t')) a1 a2 n1 n2 cap1 cap2 c1 c2 u1 u2 :=
  ⟨⟨cell_of_row _ _ 0 _ _ _ (heap_prev2 _ _ _), cell_of_row _ _ 1 _ _ _ (heap_prev2 _ _ _), cell_of_row _ _ 2 _ _ _ (heap_prev2 _ _ _)⟩, ⟨cell_of_row _ _ 0 _ _ _ (heap_last2 _ _ _), cell_of_row _ _ 1 _ _ _ (heap_last2 _ _ _), cell_of_row _ _ 2 _ _ _ (heap_last2 _ _ _)⟩, (below_new w _).alloc (by simp) _⟩
set_option maxHeartbeats 400000 in
theorem l7Better_free (a1 a2 : Option Addr) (n1 n2 cap1 cap2 c1 c2 : Nat) (u1 : Bool) (w : World) :
    Calls Tryd.prog 55 #[pathV a1 n1 cap1 c1 u1, pathV a2 n2 cap2 c2 false] w fun e w' => e = .returned (.bool true) ∧ Below w.heap.size w w' := by
  have HB := Lib.hid (boxes_new w a1 a2 n1 n2 cap1 cap2 c1 c2 u1 false 65 65)
  unfold pathV
  go_enter Tryd.func55, Tryd.ntmps55
  go_wp2
  go_ret
  exact ⟨rfl, HB.out.2.2⟩
theorem bet_lt {c1 c2 : Nat} {l m : List Nat} (h : c1 ≠ c2) : bet (c1, l) (c2, m) = decide (c1 < c2) := by
  rw [Bool.eq_iff_iff, bet_iff]; simp; omega
theorem bet_part {c : Nat} {l m : List Nat} {k : Nat} (hl : Bits2 l) (hm : Bits2 m) (h : l.length = m.length) (hk : k < l.length) (ht : l.take k = m.take k) (hne : l.getD k 0 ≠ m.getD k 0) : bet (c, l) (c, m) = decide (l.getD k 0 < m.getD k 0) := by
  rw [Bool.eq_iff_iff, bet_iff, decide_eq_true_eq]
  show (c < c ∨ (c = c ∧ nval l < nval m)) ↔ l.getD k 0 < m.getD k 0
  rcases Nat.lt_or_gt_of_ne hne with hlt | hgt
  · have := nval_part l m k hl hm h hk ht hlt
    omega
  · have := nval_part m l k hm hl h.symm (by omega) ht.symm hgt
    omega
theorem bet_same {c : Nat} {l : List Nat} : bet (c, l) (c, l) = false := by
  cases e : bet (c, l) (c, l) with
  | false => rfl
  | true => have := bet_iff.1 e; simp at this
set_option maxHeartbeats 1000000 in
theorem l7Better_used (a1 a2 : Option Addr) (cap1 cap2 c1 c2 : Nat) (l m : List Nat) (w : World) (hl : Bits2 l) (hm : Bits2 m) (h : l.length = m.length) (h100 : l.length ≤ 100)
    (i1 : Ints .i64 w w.heap.size a1 (ints l)) (i2 : Ints .i64 w w.heap.size a2 (ints m)) :
    Calls Tryd.prog 55 #[pathV a1 l.length cap1 c1 true, pathV a2 l.length cap2 c2 true] w fun e w' => e = .returned (.bool (bet (c1, l) (c2, m))) ∧ Below w.heap.size w w' := by
  have HB := Lib.hid (boxes_new w a1 a2 l.length l.length cap1 cap2 c1 c2 true true 65 65)
  unfold pathV
  by_cases hc : c1 = c2
  · subst hc
    have z : ((c1 : Int) != (c1 : Int)) = false := by simp
    obtain ⟨n, hn⟩ : ∃ n, n = l.length := ⟨_, rfl⟩
    have I1 : Hid (Ints .i64 ((w.alloc (.cells #[.slice a1 l.length cap1, .int .i64 c1, .bool true] 65)).alloc (.cells #[.slice a2 l.length cap2, .int .i64 c1, .bool true] 65)) w.heap.size a1 (ints l)) := i1.below HB.out.2.2
    have I2 : Hid (Ints .i64 ((w.alloc (.cells #[.slice a1 l.length cap1, .int .i64 c1, .bool true] 65)).alloc (.cells #[.slice a2 l.length cap2, .int .i64 c1, .bool true] 65)) w.heap.size a2 (ints m)) := i2.below HB.out.2.2
    have HL := Lib.hid (And.intro h hn)
    rw [← hn] at HB I1 I2 h100
    rw [← hn]
    clear h hn i1 i2
    go_enter Tryd.func55, Tryd.ntmps55
    go_wp2
    generalize (w.alloc (.cells #[.slice a1 n cap1, .int .i64 c1, .bool true] 65)).alloc (.cells #[.slice a2 n cap2, .int .i64 c1, .bool true] 65) = W at *
    clear z
    go_loopw [5] (fun i wr => ∃ k q : Nat, k ≤ n ∧ i = .int .i64 (k : Nat) ∧ l.take k = m.take k ∧ wr = W.drewN q) (fun i _ => n - (intOf i).toNat)
    case atStart => exact ⟨0, 0, Nat.zero_le _, rfl, rfl, rfl⟩
    case round =>
      obtain ⟨k, q, hk, rfl, htk, rfl⟩ := hrel
      have HT := Lib.hid htk
      obtain ⟨⟨b0, _, _⟩, ⟨b3, _, _⟩, _⟩ := HB.out
      clear htk
      by_cases hlt : k < n
      · obtain ⟨b, off, rfl, hb, hc⟩ := I1.out.at_ (i := k) (by rw [ints_length, ← HL.out.2]; exact hlt)
        obtain ⟨b', off', rfl, hb', hc'⟩ := I2.out.at_ (i := k) (by rw [ints_length, ← HL.out.1, ← HL.out.2]; exact hlt)
        rw [ints_el] at hc hc'
        by_cases he : l.getD k 0 = m.getD k 0
        · have HE : Hid (l.take (k + 1) = m.take (k + 1)) := by
            show l.take (k + 1) = m.take (k + 1)
            rw [take_next (by rw [← HL.out.2]; exact hlt), take_next (by rw [← HL.out.1, ← HL.out.2]; exact hlt), HT.out, he]
          rw [← he] at hc'
          generalize l.getD k 0 = x at *
          have hne : ((x : Int) != (x : Int)) = false := by simp
          clear he
          go_wp2
          go_quiet (fail)
          go_wp2
          go_roundw
          case rel => exact ⟨k + 1, _, by omega, by go_num, HE.out, rfl⟩
          case measure => simp [intOf]; omega
        · have HE := Lib.hid (bet_part (c := c1) hl hm HL.out.1 (by rw [← HL.out.2]; exact hlt) HT.out he)
          generalize l.getD k 0 = x at *
          generalize m.getD k 0 = y at *
          have hne : ((x : Int) != (y : Int)) = true := by simp; omega
          clear he
          go_wp2
          go_quiet (fail)
          go_wp2
          go_quiet (fail)
          go_wp2
          go_ret
          exact ⟨ret_bool HE.out.symm, below_drewN (below_drewN (below_drewN HB.out.2.2 _) _) _⟩
      · have HE : Hid (l = m) := by
          have h1 : l.take k = l := List.take_of_length_le (by rw [← HL.out.2]; omega)
          have h2 : m.take k = m := List.take_of_length_le (by rw [← HL.out.1, ← HL.out.2]; omega)
          have h3 := HT.out
          rw [h1, h2] at h3
          exact h3
        go_wp2
        go_ret
        exact ⟨ret_bool (by rw [HE.out, bet_same]), below_drewN HB.out.2.2 _⟩
  · have z : ((c1 : Int) != (c2 : Int)) = true := by simp; omega
    have HE := Lib.hid (bet_lt (l := l) (m := m) hc)
    clear hc i1 i2 h h100
    go_enter Tryd.func55, Tryd.ntmps55
    go_wp2
    go_ret
    exact ⟨ret_bool HE.out.symm, HB.out.2.2⟩
end Go.Proofs.YtnjjblcigcblhaaDoor
