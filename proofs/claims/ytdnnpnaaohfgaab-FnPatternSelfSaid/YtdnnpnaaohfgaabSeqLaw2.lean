/-
  The laws of FilterSequence, walked: they return true for every code, and write into nothing that was there. No condition.
-/
import Derived.Test.YtdnnpnaaohfgaabSeqLaw1
namespace Go.Proofs.Ytdnnpnaaohfgaab
open Go.RowKit

theorem Ints.dropQ {k : IntKind} {w : World} {B b m : Nat} {xs : List Int} (h : Ints k w B (some ⟨b, 0, none⟩) xs) : Ints k w B (some ⟨b, m, none⟩) (xs.drop m) := fun hne => by
  have hne' : xs ≠ [] := by intro e; subst e; simp at hne
  obtain ⟨b1, off, e, hb, hc⟩ := h hne'
  injection e with e
  injection e with e1 e2
  subst e1 e2
  refine ⟨b, m, rfl, hb, fun i hi => ?_⟩
  have hi2 : m + i < xs.length := by simp at hi; omega
  have := hc (m + i) hi2
  rw [Nat.zero_add] at this
  rw [this]
  simp [el, List.getElem?_drop]
theorem fltOr_comm (xs ys : List Int) : fltOr ys xs = fltOr xs ys := by
  by_cases hc : seqOk xs = true ∧ seqOk ys = true ∧ 0 < xs.length ∧ 0 < ys.length
  · rw [fltOr_yes hc.1 hc.2.1 hc.2.2.1 hc.2.2.2, fltOr_yes hc.2.1 hc.1 hc.2.2.2 hc.2.2.1, cvL_comm hc.2.2.2 hc.2.2.1]
  · rw [fltOr_no hc, fltOr_no fun h => hc ⟨h.2.1, h.1, h.2.2.2, h.2.2.1⟩]
theorem alloc_below (w : World) (o : Obj) : Below w.heap.size w (w.alloc o) := (Below.refl _ _).alloc (Nat.le_refl _) o
theorem alive_from {w W : World} (hB : Below w.heap.size w W) : Calls Try.prog 16 #[] W fun e w' => e = .returned (.bool true) ∧ Below w.heap.size w w' := (alive_any W).mono fun _ _ ⟨h1, h2⟩ => ⟨h1, Below.next hB (Nat.le_refl _) h2⟩
theorem seqOk_one : seqOk [1] = true := by decide
theorem seqOk_delay : seqOk [0, 1] = true := by decide
theorem seqOk_121 : seqOk [1, -2, 1] = true := by decide
/-- What becomes of two lists that can be filtered. -/
theorem flt_facts {xs ys : List Int} (h : (fltOr xs ys).length ≠ 0) : sumL (fltOr xs ys) = sumL xs * sumL ys ∧ fltOr xs [1] = xs := by
  obtain ⟨h1, h2, h3, h4⟩ := fltOr_pos h
  exact ⟨by rw [fltOr_yes h1 h2 h3 h4, cvL_sum h3 h4], by rw [fltOr_yes h1 seqOk_one h3 (by decide), cvL_one h3]⟩
theorem sum_in {xs : List Int} {M : Int} (h : ∀ i, -M ≤ el xs i ∧ el xs i ≤ M) (k : Nat) (hM : 0 ≤ M) (hk : k ≤ 127) : -(127 * M) ≤ sqS (el xs) k ∧ sqS (el xs) k ≤ 127 * M := by
  have h1 := sqS_bound (f := el xs) (M := M) (n := k) fun i _ => h i
  have h2 : (k : Int) * M ≤ 127 * M := Int.mul_le_mul_of_nonneg_right (by omega) hM
  omega
theorem flt_el {xs ys : List Int} (i : Nat) : -1000000000 ≤ el (fltOr xs ys) i ∧ el (fltOr xs ys) i ≤ 1000000000 := by
  by_cases hc : seqOk xs = true ∧ seqOk ys = true ∧ 0 < xs.length ∧ 0 < ys.length
  · rw [fltOr_yes hc.1 hc.2.1 hc.2.2.1 hc.2.2.2]
    by_cases hi : i < (cvL xs ys).length
    · rw [cvL_el hc.2.2.1]
      rw [cvL_length] at hi
      have := seqOk_len hc.1
      have := seqOk_len hc.2.1
      exact cvF_in hc.1 hc.2.1 i (by omega)
    · rw [el_out (by omega)]; omega
  · rw [fltOr_no hc]
    rw [el_out (xs := []) (Nat.zero_le _)]; omega
/-- One round of a sum. -/
theorem sum_round {xs : List Int} {M : Int} (h : ∀ i, -M ≤ el xs i ∧ el xs i ≤ M) (hM : 0 ≤ M ∧ M ≤ 1000000000) {k : Nat} (hk : k + 1 ≤ 127) : ∃ p q s : Int, p = sqS (el xs) k ∧ q = el xs k ∧ s = p + q ∧ s = sqS (el xs) (k + 1) ∧ (-1000000000000 ≤ s ∧ s ≤ 1000000000000) := by
  have := sum_in h (k + 1) hM.1 hk
  exact ⟨_, _, _, rfl, rfl, rfl, rfl, by rw [show sqS (el xs) k + el xs k = sqS (el xs) (k + 1) from rfl]; omega⟩

theorem ints_lit {w : World} {b : Nat} {t : TypeId} {cs : Array Value} {xs : List Int} (h : w.heap[b]? = some (.cells cs t (0, 0))) (hcs : ∀ i, i < xs.length → cs[i]? = some (.int .i64 (el xs i))) : Ints .i64 w w.heap.size (some ⟨b, 0, none⟩) xs := fun _ =>
  ⟨b, 0, rfl, (Array.getElem?_eq_some_iff.1 h).1, fun i hi => by rw [Nat.zero_add, cell_of_row _ _ _ _ _ _ h]; exact hcs i hi⟩
theorem ints_121 (w : World) : Ints .i64 (w.alloc (.cells #[.int .i64 1, .int .i64 (-2), .int .i64 1] 3)) (w.heap.size + 1) (some ⟨w.heap.size, 0, none⟩) [1, -2, 1] := by
  have h := ints_lit (xs := [1, -2, 1]) (heap_alloc_last w (.cells #[.int .i64 1, .int .i64 (-2), .int .i64 1] 3)) fun i hi => by
    have h3 : i < 3 := hi
    match i, h3 with
    | 0, _ | 1, _ | 2, _ => rfl
  simpa using h
theorem ints_01 (w : World) : Ints .i64 (w.alloc (.cells #[.int .i64 0, .int .i64 1] 3)) (w.heap.size + 1) (some ⟨w.heap.size, 0, none⟩) [0, 1] := by
  have h := ints_lit (xs := [0, 1]) (heap_alloc_last w (.cells #[.int .i64 0, .int .i64 1] 3)) fun i hi => by
    have h3 : i < 2 := hi
    match i, h3 with
    | 0, _ | 1, _ => rfl
  simpa using h
theorem flt_groups {xs ys : List Int} (h1 : (fltOr xs ys).length ≠ 0) (h2 : (fltOr ys [1, -2, 1]).length ≠ 0) (h3 : seqOk (fltOr xs ys) = true) (h4 : seqOk (fltOr ys [1, -2, 1]) = true) :
    fltOr (fltOr xs ys) [1, -2, 1] = fltOr xs (fltOr ys [1, -2, 1]) := by
  obtain ⟨a1, a2, a3, a4⟩ := fltOr_pos h1
  rw [fltOr_yes h3 seqOk_121 (by omega) (by decide), fltOr_yes a1 h4 a3 (by omega), fltOr_yes a1 a2 a3 a4, fltOr_yes a2 seqOk_121 a4 (by decide), cvL_assoc a3 a4 (by decide)]
theorem flt_delay {xs : List Int} (h : (fltOr xs [0, 1]).length ≠ 0) : fltOr xs [0, 1] = 0 :: xs ∧ 0 < xs.length := by
  obtain ⟨a1, a2, a3, a4⟩ := fltOr_pos h
  exact ⟨by rw [fltOr_yes a1 a2 a3 a4, cvL_delay a3], a3⟩

set_option maxHeartbeats 4000000 in
theorem walkFilterDelay (a : Option Addr) (c : Nat) (ds : List Int) (w : World) (hx : Ints .u8 w w.heap.size a ds) (hw : ∀ n ∈ ds, (Lit.int .u8 n).wf = true) (hc : ds.length ≤ c) (hcm : c ≤ maxLen) :
    Calls Try.prog 3 #[.slice a ds.length c] w fun e w' => e = .returned (.bool true) ∧ Below w.heap.size w w' := by
  have hb := isByte_of_wf hw
  clear hw
  by_cases hl : ds.length ≤ 1048576
  · go_enter Try.func3, Try.ntmps3
    go_wp2_with fail
    refine (drawFilterSequence_any a c ds w hx hb hc hcm).mono ?_
    rintro e w1 ⟨xs, b0, c0, ys, b1, c1, rfl, ⟨lx, _, _, i1⟩, ⟨ly, _, _, j1⟩, bl⟩
    have X1 := Lib.hid i1
    have B1 := Lib.hid bl
    clear hx hb hc hcm i1 j1 bl
    obtain ⟨Z, hZ⟩ : ∃ Z, Z = fltOr xs [0, 1] := ⟨_, rfl⟩
    have HZ := Lib.hid hZ
    have hZl : Z.length ≤ 127 := by rw [hZ]; exact fltOr_small xs _
    have z3 : decide (Z = Z) = true := by simp
    clear hZ
    go_wp2_with fail
    have h2 := filter_any (some ⟨b0, 0, none⟩) (some ⟨w1.heap.size, 0, none⟩) c0 2 xs [0, 1] (w1.alloc (.cells #[.int .i64 0, .int .i64 1] 3)) (X1.out.next (alloc_below w1 _)) (by simpa using ints_01 w1)
    rw [← HZ.out] at h2
    refine h2.mono ?_
    clear h2
    rintro e w2 ⟨v2, cv2, rfl, ⟨r2, _⟩, o2, b2⟩
    have O2 := Lib.hid o2
    have Y2 := Lib.hid (own_of_list o2).ints
    have X2 := Lib.hid ((X1.out.next (alloc_below w1 _)).next b2)
    have B2 := Lib.hid (Below.next (B1.out.alloc B1.out.size _) (Nat.le_refl _) b2)
    clear o2 b2 X1 B1
    go_wp2_with fail
    have h3 := specFilter_any (some ⟨b0, 0, none⟩) (some ⟨w2.heap.size, 0, none⟩) c0 2 xs [0, 1] (w2.alloc (.cells #[.int .i64 0, .int .i64 1] 3)) (X2.out.next (alloc_below w2 _)) (by simpa using ints_01 w2) (by unfold maxLen; omega) (by decide)
    rw [← HZ.out] at h3
    refine h3.mono ?_
    clear h3
    rintro e w3 ⟨v3, cv3, rfl, _, o3, b3⟩
    have U3 := Lib.hid (own_of_list o3).ints
    have Y3 := Lib.hid ((Y2.out.next (alloc_below w2 _)).next b3)
    have X3 := Lib.hid ((X2.out.next (alloc_below w2 _)).next b3)
    have B3 := Lib.hid (Below.next (B2.out.alloc B2.out.size _) (Nat.le_refl _) b3)
    clear o3 b3 Y2 X2 B2
    go_wp2_with fail
    refine (sameInts_any v2 v3 cv2 cv3 w3.heap.size w3.heap.size Z Z w3 Y3.out U3.out (by omega)).mono ?_
    rintro e w4 ⟨rfl, n4, rfl⟩
    have B4 := Lib.hid (below_drewN B3.out n4)
    have Y4 : Hid (Ints .i64 (w3.drewN n4) (w3.drewN n4).heap.size v2 Z) := Y3.out
    have X4 : Hid (Ints .i64 (w3.drewN n4) (w3.drewN n4).heap.size (some ⟨b0, 0, none⟩) xs) := X3.out
    clear Y3 X3 B3 U3
    generalize w3.drewN n4 = w4 at *
    by_cases hZ0 : Z.length = 0
    · have z4 : ((Z.length : Int) == 0) = true := by simp [hZ0]
      clear hZ0
      go_wp2_with fail
      refine (alive_any w4).mono ?_
      rintro e w8 ⟨rfl, b8⟩
      have B8 := Lib.hid (Below.next B4.out (Nat.le_refl _) b8)
      clear b8
      go_wp2
      go_ret
      exact ⟨rfl, B8.out⟩
    · have z4 : ((Z.length : Int) == 0) = false := by rw [beq_eq_false_iff_ne]; omega
      obtain ⟨f1, f2⟩ := flt_delay (xs := xs) (by rw [← HZ.out]; exact hZ0)
      rw [← HZ.out] at f1
      obtain ⟨b2', rfl⟩ := own_at O2.out (by omega)
      obtain ⟨n, hn⟩ : ∃ n, n = Z.length := ⟨_, rfl⟩
      have hn1 : n = xs.length + 1 := by rw [hn, f1]; rfl
      have hcell : w4.cell? ⟨b2', 0, none⟩ = some (.int .i64 0) := by
        obtain ⟨bb, off, e1, _, h⟩ := Y4.out.at_ (i := 0) (by omega)
        injection e1 with e1
        injection e1 with e1 e2
        subst e1 e2
        rw [Nat.add_zero, f1] at h
        exact h
      have hdr := Ints.dropQ (m := 1) Y4.out
      rw [f1] at hdr
      have HD := Lib.hid hdr
      have z9 : decide (xs = xs) = true := by simp
      rw [← hn] at r2 z4 ⊢
      subst hn1
      have hcv : ¬ cv2 = 1 := by omega
      clear hZ0 f1 hn hZl O2 Y4 HZ hdr
      go_wp2_with fail
      refine (sameInts_any (some ⟨b2', 1, none⟩) (some ⟨b0, 0, none⟩) _ c0 w4.heap.size w4.heap.size xs xs w4 HD.out X4.out (by omega)).mono ?_
      rintro e w10 ⟨rfl, n10, rfl⟩
      go_wp2
      go_ret
      exact ⟨rfl, below_drewN B4.out n10⟩
  · go_enter Try.func3, Try.ntmps3
    go_wp2
    go_ret
    exact ⟨rfl, Below.refl _ _⟩
end Go.Proofs.Ytdnnpnaaohfgaab
