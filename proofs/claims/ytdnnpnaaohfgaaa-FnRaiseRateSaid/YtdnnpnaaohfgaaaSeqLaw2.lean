/-
  The laws of FilterSequence, walked: they return true for every code, and write into nothing that was there. No condition.
-/
import Derived.Test.YtdnnpnaaohfgaaaSeqLaw1
namespace Go.Proofs.Ytdnnpnaaohfgaaa
open Go.RowKit

theorem Ints.dropQ {k : IntKind} {w : World} {B b m : Nat} {xs : List Int} (h : Ints k w B (some ⟨b, 0, none⟩) xs) : Ints k w B (some ⟨b, m, none⟩) (xs.drop m) := fun hne => by
  have hne' : xs ≠ [] := by intro e; subst e; simp at hne
  obtain ⟨b1, off, e, hb, hc⟩ := h hne'
  injection e with e
  injection e with e1 e2
  subst e1 e2
  refine ⟨b, m, rfl, hb, fun i hi => ?_⟩
  have hi2 : m + i < xs.length := by simp at hi; omega
  have := hc (m + i) hi2
  rw [Nat.zero_add] at this
  rw [this]
  simp [el, List.getElem?_drop]
theorem fltOr_comm (xs ys : List Int) : fltOr ys xs = fltOr xs ys := by
  by_cases hc : seqOk xs = true ∧ seqOk ys = true ∧ 0 < xs.length ∧ 0 < ys.length
  · rw [fltOr_yes hc.1 hc.2.1 hc.2.2.1 hc.2.2.2, fltOr_yes hc.2.1 hc.1 hc.2.2.2 hc.2.2.1, cvL_comm hc.2.2.2 hc.2.2.1]
  · rw [fltOr_no hc, fltOr_no fun h => hc ⟨h.2.1, h.1, h.2.2.2, h.2.2.1⟩]
theorem alloc_below (w : World) (o : Obj) : Below w.heap.size w (w.alloc o) := (Below.refl _ _).alloc (Nat.le_refl _) o
theorem alive_from {w W : World} (hB : Below w.heap.size w W) : Calls Try.prog 15 #[] W fun e w' => e = .returned (.bool true) ∧ Below w.heap.size w w' := (alive_any W).mono fun _ _ ⟨h1, h2⟩ => ⟨h1, Below.next hB (Nat.le_refl _) h2⟩
theorem seqOk_one : seqOk [1] = true := by decide
theorem seqOk_delay : seqOk [0, 1] = true := by decide
theorem seqOk_121 : seqOk [1, -2, 1] = true := by decide
/-- What becomes of two lists that can be filtered. -/
theorem flt_facts {xs ys : List Int} (h : (fltOr xs ys).length ≠ 0) : sumL (fltOr xs ys) = sumL xs * sumL ys ∧ fltOr xs [1] = xs := by
  obtain ⟨h1, h2, h3, h4⟩ := fltOr_pos h
  exact ⟨by rw [fltOr_yes h1 h2 h3 h4, cvL_sum h3 h4], by rw [fltOr_yes h1 seqOk_one h3 (by decide), cvL_one h3]⟩
theorem sum_in {xs : List Int} {M : Int} (h : ∀ i, -M ≤ el xs i ∧ el xs i ≤ M) (k : Nat) (hM : 0 ≤ M) (hk : k ≤ 127) : -(127 * M) ≤ sqS (el xs) k ∧ sqS (el xs) k ≤ 127 * M := by
  have h1 := sqS_bound (f := el xs) (M := M) (n := k) fun i _ => h i
  have h2 : (k : Int) * M ≤ 127 * M := Int.mul_le_mul_of_nonneg_right (by omega) hM
  omega
theorem flt_el {xs ys : List Int} (i : Nat) : -1000000000 ≤ el (fltOr xs ys) i ∧ el (fltOr xs ys) i ≤ 1000000000 := by
  by_cases hc : seqOk xs = true ∧ seqOk ys = true ∧ 0 < xs.length ∧ 0 < ys.length
  · rw [fltOr_yes hc.1 hc.2.1 hc.2.2.1 hc.2.2.2]
    by_cases hi : i < (cvL xs ys).length
    · rw [cvL_el hc.2.2.1]
      rw [cvL_length] at hi
      have := seqOk_len hc.1
      have := seqOk_len hc.2.1
      exact cvF_in hc.1 hc.2.1 i (by omega)
    · rw [el_out (by omega)]; omega
  · rw [fltOr_no hc]
    rw [el_out (xs := []) (Nat.zero_le _)]; omega
/-- One round of a sum. -/
theorem sum_round {xs : List Int} {M : Int} (h : ∀ i, -M ≤ el xs i ∧ el xs i ≤ M) (hM : 0 ≤ M ∧ M ≤ 1000000000) {k : Nat} (hk : k + 1 ≤ 127) : ∃ p q s : Int, p = sqS (el xs) k ∧ q = el xs k ∧ s = p + q ∧ s = sqS (el xs) (k + 1) ∧ (-1000000000000 ≤ s ∧ s ≤ 1000000000000) := by
  have := sum_in h (k + 1) hM.1 hk
  exact ⟨_, _, _, rfl, rfl, rfl, rfl, by rw [show sqS (el xs) k + el xs k = sqS (el xs) (k + 1) from rfl]; omega⟩

set_option maxHeartbeats 4000000 in
theorem walkFilterSequence (a : Option Addr) (c : Nat) (ds : List Int) (w : World) (hx : Ints .u8 w w.heap.size a ds) (hw : ∀ n ∈ ds, (Lit.int .u8 n).wf = true) (hc : ds.length ≤ c) (hcm : c ≤ maxLen) :
    Calls Try.prog 4 #[.slice a ds.length c] w fun e w' => e = .returned (.bool true) ∧ Below w.heap.size w w' := by
  have hb := isByte_of_wf hw
  clear hw
  by_cases hl : ds.length ≤ 1048576
  · go_enter Try.func4, Try.ntmps4
    go_wp2_with fail
    refine (drawFilterSequence_any a c ds w hx hb hc hcm).mono ?_
    rintro e w1 ⟨xs, b0, c0, ys, b1, c1, rfl, ⟨lx, _, _, i1⟩, ⟨ly, _, _, j1⟩, bl⟩
    have X1 := Lib.hid i1
    have F1 := Lib.hid j1
    have B1 := Lib.hid bl
    clear hx hb hc hcm i1 j1 bl
    obtain ⟨Z, hZ⟩ : ∃ Z, Z = fltOr xs ys := ⟨_, rfl⟩
    have HZ := Lib.hid hZ
    have hZl : Z.length ≤ 127 := by rw [hZ]; exact fltOr_small xs ys
    have z3 : decide (Z = Z) = true := by simp
    clear hZ
    go_wp2_with fail
    refine (filter_any _ _ c0 c1 xs ys w1 X1.out F1.out).mono ?_
    rw [← HZ.out]
    rintro e w2 ⟨v2, cv2, rfl, ⟨r2, _⟩, o2, b2⟩
    have Y2 := Lib.hid (own_of_list o2).ints
    have X2 := Lib.hid (X1.out.next b2)
    have F2 := Lib.hid (F1.out.next b2)
    have B2 := Lib.hid (Below.next B1.out (Nat.le_refl _) b2)
    clear o2 b2 X1 F1 B1
    go_wp2_with fail
    refine (specFilter_any _ _ c0 c1 xs ys w2 X2.out F2.out (by unfold maxLen; omega) (by unfold maxLen; omega)).mono ?_
    rw [← HZ.out]
    rintro e w3 ⟨v3, cv3, rfl, _, o3, b3⟩
    have U3 := Lib.hid (own_of_list o3).ints
    have Y3 := Lib.hid (Y2.out.next b3)
    have X3 := Lib.hid (X2.out.next b3)
    have F3 := Lib.hid (F2.out.next b3)
    have B3 := Lib.hid (Below.next B2.out (Nat.le_refl _) b3)
    clear o3 b3 Y2 X2 F2 B2
    go_wp2_with fail
    refine (sameInts_any v2 v3 cv2 cv3 w3.heap.size w3.heap.size Z Z w3 Y3.out U3.out (by omega)).mono ?_
    rintro e w4 ⟨rfl, n4, rfl⟩
    have B4 := Lib.hid (below_drewN B3.out n4)
    have Y4 : Hid (Ints .i64 (w3.drewN n4) (w3.drewN n4).heap.size v2 Z) := Y3.out
    have X4 : Hid (Ints .i64 (w3.drewN n4) (w3.drewN n4).heap.size (some ⟨b0, 0, none⟩) xs) := X3.out
    have F4 : Hid (Ints .i64 (w3.drewN n4) (w3.drewN n4).heap.size (some ⟨b1, 0, none⟩) ys) := F3.out
    clear Y3 X3 F3 B3 U3
    generalize w3.drewN n4 = w4 at *
    go_wp2_with fail
    refine (filter_any _ _ c1 c0 ys xs w4 F4.out X4.out).mono ?_
    rw [fltOr_comm xs ys, ← HZ.out]
    rintro e w5 ⟨v5, cv5, rfl, _, o5, b5⟩
    have U5 := Lib.hid (own_of_list o5).ints
    have Y5 := Lib.hid (Y4.out.next b5)
    have X5 := Lib.hid (X4.out.next b5)
    have F5 := Lib.hid (F4.out.next b5)
    have B5 := Lib.hid (Below.next B4.out (Nat.le_refl _) b5)
    clear o5 b5 Y4 X4 F4 B4
    go_wp2_with fail
    refine (sameInts_any v2 v5 cv2 cv5 w5.heap.size w5.heap.size Z Z w5 Y5.out U5.out (by omega)).mono ?_
    rintro e w6 ⟨rfl, n6, rfl⟩
    have B6 := Lib.hid (below_drewN B5.out n6)
    have Y6 : Hid (Ints .i64 (w5.drewN n6) (w5.drewN n6).heap.size v2 Z) := Y5.out
    have X6 : Hid (Ints .i64 (w5.drewN n6) (w5.drewN n6).heap.size (some ⟨b0, 0, none⟩) xs) := X5.out
    have F6 : Hid (Ints .i64 (w5.drewN n6) (w5.drewN n6).heap.size (some ⟨b1, 0, none⟩) ys) := F5.out
    clear Y5 X5 F5 B5 U5
    generalize w5.drewN n6 = w6 at *
    by_cases hZ0 : Z.length = 0
    · have z4 : ((Z.length : Int) == 0) = true := by simp [hZ0]
      clear hZ0
      go_wp2_with fail
      refine (alive_any w6).mono ?_
      rintro e w8 ⟨rfl, b8⟩
      have B8 := Lib.hid (Below.next B6.out (Nat.le_refl _) b8)
      clear b8
      go_wp2
      go_ret
      exact ⟨rfl, B8.out⟩
    · have z4 : ((Z.length : Int) == 0) = false := by rw [beq_eq_false_iff_ne]; omega
      obtain ⟨h1, h2, h3, h4⟩ := fltOr_pos (xs := xs) (ys := ys) (by rw [← HZ.out]; exact hZ0)
      have hzl := fltOr_len (xs := xs) (ys := ys) (by rw [← HZ.out]; exact hZ0)
      obtain ⟨f1, f2⟩ := flt_facts (xs := xs) (ys := ys) (by rw [← HZ.out]; exact hZ0)
      rw [← HZ.out] at hzl f1
      have hlx := seqOk_len h1
      have hly := seqOk_len h2
      have EX := Lib.hid (fun i => seqOk_in h1 i)
      have EY := Lib.hid (fun i => seqOk_in h2 i)
      have EZ := Lib.hid (show ∀ i, -1000000000 ≤ el Z i ∧ el Z i ≤ 1000000000 from fun i => by rw [HZ.out]; exact flt_el i)
      have HF1 := Lib.hid f1
      have HF2 := Lib.hid f2
      have HZL := Lib.hid hzl
      have SX := Lib.hid (sum_in (M := 1000) EX.out xs.length (by omega) (by omega))
      have SY := Lib.hid (sum_in (M := 1000) EY.out ys.length (by omega) (by omega))
      clear h1 h2 f1 f2 hzl
      go_wp2
      go_loopw [6, 9] (fun s i wr => ∃ k : Nat, k ≤ xs.length ∧ i = .int .i64 k ∧ s = .int .i64 (sqS (el xs) k) ∧ wr = w6) (fun _ i _ => xs.length - (intOf i).toNat)
      case atStart => exact ⟨0, Nat.zero_le _, rfl, rfl, rfl⟩
      case round =>
        obtain ⟨k, hk, rfl, rfl, rfl⟩ := hrel
        have hk64 : k ≤ 64 := by omega
        by_cases hlt : k < xs.length
        · obtain ⟨bb, off, rfl', hbb, hcc⟩ := X6.out.at_ hlt
          injection rfl' with rfl'
          injection rfl' with e1 e2
          subst e1 e2
          rw [Nat.zero_add] at hcc
          obtain ⟨p, q, s, hp, hq, hs, hs2, kv⟩ := sum_round (M := 1000) EX.out (by omega) (k := k) (by omega)
          rw [← hq] at hcc
          rw [← hp]
          have HV := Lib.hid hs2
          have r1 : IntKind.i64.wrap (p + q) = s := by rw [← hs]; exact wrapS kv
          have r1' : wrap64 (p + q) = s := by rw [← hs]; exact wrapS' kv
          clear hp hq hs hs2 kv hbb
          go_wp2
          go_roundw
          case rel => exact ⟨k + 1, by omega, by go_num, by first | rw [← HV.out] | (rw [← HV.out, r1']), by first | rfl | trivial⟩
          case measure => simp [intOf]; omega
        · obtain rfl : xs.length = k := by omega
          go_wp2
          go_loopw [7, 10] (fun s i wr' => ∃ k : Nat, k ≤ ys.length ∧ i = .int .i64 k ∧ s = .int .i64 (sqS (el ys) k) ∧ wr' = wr) (fun _ i _ => ys.length - (intOf i).toNat)
          case atStart => exact ⟨0, Nat.zero_le _, rfl, rfl, rfl⟩
          case round =>
            obtain ⟨k, hk, rfl, rfl, rfl⟩ := hrel
            have hk64 : k ≤ 64 := by omega
            by_cases hlt : k < ys.length
            · obtain ⟨bb, off, rfl', hbb, hcc⟩ := F6.out.at_ hlt
              injection rfl' with rfl'
              injection rfl' with e1 e2
              subst e1 e2
              rw [Nat.zero_add] at hcc
              obtain ⟨p, q, s, hp, hq, hs, hs2, kv⟩ := sum_round (M := 1000) EY.out (by omega) (k := k) (by omega)
              rw [← hq] at hcc
              rw [← hp]
              have HV := Lib.hid hs2
              have r1 : IntKind.i64.wrap (p + q) = s := by rw [← hs]; exact wrapS kv
              have r1' : wrap64 (p + q) = s := by rw [← hs]; exact wrapS' kv
              clear hp hq hs hs2 kv hbb
              go_wp2
              go_roundw
              case rel => exact ⟨k + 1, by omega, by go_num, by first | rw [← HV.out] | (rw [← HV.out, r1']), by first | rfl | trivial⟩
              case measure => simp [intOf]; omega
            · obtain rfl : ys.length = k := by omega
              go_wp2
              go_loopw [8, 11] (fun s i wr' => ∃ k : Nat, k ≤ Z.length ∧ i = .int .i64 k ∧ s = .int .i64 (sqS (el Z) k) ∧ wr' = wr) (fun _ i _ => Z.length - (intOf i).toNat)
              case atStart => exact ⟨0, Nat.zero_le _, rfl, rfl, rfl⟩
              case round =>
                obtain ⟨k, hk, rfl, rfl, rfl⟩ := hrel
                by_cases hlt : k < Z.length
                · obtain ⟨bb, off, rfl, hbb, hcc⟩ := Y6.out.at_ hlt
                  obtain ⟨p, q, s, hp, hq, hs, hs2, kv⟩ := sum_round (M := 1000000000) EZ.out (by omega) (k := k) (by omega)
                  rw [← hq] at hcc
                  rw [← hp]
                  have HV := Lib.hid hs2
                  have r1 : IntKind.i64.wrap (p + q) = s := by rw [← hs]; exact wrapS kv
                  have r1' : wrap64 (p + q) = s := by rw [← hs]; exact wrapS' kv
                  clear hp hq hs hs2 kv hbb
                  go_wp2
                  go_roundw
                  case rel => exact ⟨k + 1, by omega, by go_num, by first | rw [← HV.out] | (rw [← HV.out, r1']), by first | rfl | trivial⟩
                  case measure => simp [intOf]; omega
                · obtain rfl : Z.length = k := by omega
                  obtain ⟨p, hp⟩ : ∃ p, p = sqS (el xs) xs.length := ⟨_, rfl⟩
                  obtain ⟨q, hq⟩ : ∃ q, q = sqS (el ys) ys.length := ⟨_, rfl⟩
                  obtain ⟨z, hz⟩ : ∃ z, z = sqS (el Z) Z.length := ⟨_, rfl⟩
                  have hpq : z = p * q := by rw [hp, hq, hz]; exact HF1.out
                  have hp2 := SX.out
                  have hq2 := SY.out
                  rw [← hp] at hp2
                  rw [← hq] at hq2
                  have hzb : -1000000000000 ≤ p * q ∧ p * q ≤ 1000000000000 := by
                    have h : (p * q).natAbs ≤ 127000 * 127000 := by rw [Int.natAbs_mul]; exact Nat.mul_le_mul (by omega) (by omega)
                    omega
                  have z6 : ((Z.length : Int) == (xs.length : Int) + (ys.length : Int) - 1) = true := by rw [beq_iff_eq]; have := HZL.out; omega
                  have hr2 : -1000000000000 ≤ (xs.length : Int) + (ys.length : Int) ∧ (xs.length : Int) + (ys.length : Int) ≤ 1000000000000 := by omega
                  have hr3 : -1000000000000 ≤ (xs.length : Int) + (ys.length : Int) - 1 ∧ (xs.length : Int) + (ys.length : Int) - 1 ≤ 1000000000000 := by omega
                  have z5 : (z == z) = true := by simp
                  have r1 : IntKind.i64.wrap (p * q) = z := by rw [hpq]; exact wrapS hzb
                  have r1' : wrap64 (p * q) = z := by rw [hpq]; exact wrapS' hzb
                  have r2 := wrapS hr2
                  have r2' := wrapS' hr2
                  have r3 := wrapS hr3
                  have r3' := wrapS' hr3
                  have z7 : decide (xs = xs) = true := by simp
                  rw [← hp, ← hq, ← hz]
                  clear hp hq hz hpq hp2 hq2 hzb hr2 hr3
                  go_wp2_with fail
                  have h9 := filter_any (some ⟨b0, 0, none⟩) (some ⟨wr.heap.size, 0, none⟩) c0 1 xs [1] (wr.alloc (.cells #[.int .i64 1] 3)) (X6.out.next (alloc_below wr _)) (ints_one (heap_alloc_last wr _) (by simp))
                  rw [HF2.out] at h9
                  refine h9.mono ?_
                  clear h9
                  rintro e w9 ⟨v9, cv9, rfl, _, o9, b9⟩
                  have V9 := Lib.hid (own_of_list o9).ints
                  have X9 := Lib.hid ((X6.out.next (alloc_below wr (.cells #[.int .i64 1] 3))).next b9)
                  have B9 := Lib.hid (Below.next (B6.out.alloc B6.out.size _) (Nat.le_refl _) b9)
                  clear o9 b9
                  go_wp2_with fail
                  refine (sameInts_any v9 _ cv9 c0 w9.heap.size w9.heap.size xs xs w9 V9.out X9.out (Nat.le_trans hlx (by decide))).mono ?_
                  rintro e w10 ⟨rfl, n10, rfl⟩
                  go_wp2
                  go_ret
                  exact ⟨rfl, below_drewN B9.out n10⟩
  · go_enter Try.func4, Try.ntmps4
    go_wp2
    go_ret
    exact ⟨rfl, Below.refl _ _⟩
theorem ints_lit {w : World} {b : Nat} {t : TypeId} {cs : Array Value} {xs : List Int} (h : w.heap[b]? = some (.cells cs t (0, 0))) (hcs : ∀ i, i < xs.length → cs[i]? = some (.int .i64 (el xs i))) : Ints .i64 w w.heap.size (some ⟨b, 0, none⟩) xs := fun _ =>
  ⟨b, 0, rfl, (Array.getElem?_eq_some_iff.1 h).1, fun i hi => by rw [Nat.zero_add, cell_of_row _ _ _ _ _ _ h]; exact hcs i hi⟩
theorem ints_121 (w : World) : Ints .i64 (w.alloc (.cells #[.int .i64 1, .int .i64 (-2), .int .i64 1] 3)) (w.heap.size + 1) (some ⟨w.heap.size, 0, none⟩) [1, -2, 1] := by
  have h := ints_lit (xs := [1, -2, 1]) (heap_alloc_last w (.cells #[.int .i64 1, .int .i64 (-2), .int .i64 1] 3)) fun i hi => by
    have h3 : i < 3 := hi
    match i, h3 with
    | 0, _ | 1, _ | 2, _ => rfl
  simpa using h
theorem ints_01 (w : World) : Ints .i64 (w.alloc (.cells #[.int .i64 0, .int .i64 1] 3)) (w.heap.size + 1) (some ⟨w.heap.size, 0, none⟩) [0, 1] := by
  have h := ints_lit (xs := [0, 1]) (heap_alloc_last w (.cells #[.int .i64 0, .int .i64 1] 3)) fun i hi => by
    have h3 : i < 2 := hi
    match i, h3 with
    | 0, _ | 1, _ => rfl
  simpa using h
theorem flt_groups {xs ys : List Int} (h1 : (fltOr xs ys).length ≠ 0) (h2 : (fltOr ys [1, -2, 1]).length ≠ 0) (h3 : seqOk (fltOr xs ys) = true) (h4 : seqOk (fltOr ys [1, -2, 1]) = true) :
    fltOr (fltOr xs ys) [1, -2, 1] = fltOr xs (fltOr ys [1, -2, 1]) := by
  obtain ⟨a1, a2, a3, a4⟩ := fltOr_pos h1
  rw [fltOr_yes h3 seqOk_121 (by omega) (by decide), fltOr_yes a1 h4 a3 (by omega), fltOr_yes a1 a2 a3 a4, fltOr_yes a2 seqOk_121 a4 (by decide), cvL_assoc a3 a4 (by decide)]
theorem flt_delay {xs : List Int} (h : (fltOr xs [0, 1]).length ≠ 0) : fltOr xs [0, 1] = 0 :: xs ∧ 0 < xs.length := by
  obtain ⟨a1, a2, a3, a4⟩ := fltOr_pos h
  exact ⟨by rw [fltOr_yes a1 a2 a3 a4, cvL_delay a3], a3⟩

set_option maxHeartbeats 4000000 in
theorem walkFilterGroups (a : Option Addr) (c : Nat) (ds : List Int) (w : World) (hx : Ints .u8 w w.heap.size a ds) (hw : ∀ n ∈ ds, (Lit.int .u8 n).wf = true) (hc : ds.length ≤ c) (hcm : c ≤ maxLen) :
    Calls Try.prog 11 #[.slice a ds.length c] w fun e w' => e = .returned (.bool true) ∧ Below w.heap.size w w' := by
  have hb := isByte_of_wf hw
  clear hw
  by_cases hl : ds.length ≤ 1048576
  · go_enter Try.func11, Try.ntmps11
    go_wp2_with fail
    refine (drawFilterSequence_any a c ds w hx hb hc hcm).mono ?_
    rintro e w1 ⟨xs, b0, c0, ys, b1, c1, rfl, ⟨lx, _, _, i1⟩, ⟨ly, _, _, j1⟩, bl⟩
    have X1 := Lib.hid (i1.next (alloc_below w1 (.cells #[.int .i64 1, .int .i64 (-2), .int .i64 1] 3)))
    have F1 := Lib.hid (j1.next (alloc_below w1 (.cells #[.int .i64 1, .int .i64 (-2), .int .i64 1] 3)))
    have B1 := Lib.hid (bl.alloc bl.size (.cells #[.int .i64 1, .int .i64 (-2), .int .i64 1] 3))
    have C1 := Lib.hid (ints_121 w1)
    clear hx hb hc hcm i1 j1 bl
    obtain ⟨C, hC⟩ : ∃ C : List Int, C = [1, -2, 1] := ⟨_, rfl⟩
    have hC3 : C.length = 3 := by rw [hC]; rfl
    obtain ⟨Z, hZ⟩ : ∃ Z, Z = fltOr xs ys := ⟨_, rfl⟩
    have HZ := Lib.hid hZ
    have hZl : Z.length ≤ 127 := by rw [hZ]; exact fltOr_small xs ys
    obtain ⟨Y, hY⟩ : ∃ Y, Y = fltOr ys C := ⟨_, rfl⟩
    have HY := Lib.hid hY
    have hYl : Y.length ≤ 127 := by rw [hY]; exact fltOr_small ys C
    have z3 : decide (Z = Z) = true := by simp
    rw [← hC] at C1
    have HC := Lib.hid hC
    clear hZ hY hC
    go_wp2_with fail
    refine (filter_any _ _ c0 c1 xs ys _ X1.out F1.out).mono ?_
    rw [← HZ.out]
    rintro e w2 ⟨v2, cv2, rfl, ⟨r2, _⟩, o2, b2⟩
    have Y2 := Lib.hid (own_of_list o2).ints
    have X2 := Lib.hid (X1.out.next b2)
    have F2 := Lib.hid (F1.out.next b2)
    have C2 := Lib.hid (Ints.next (w := w1.alloc (.cells #[.int .i64 1, .int .i64 (-2), .int .i64 1] 3)) (by simpa using C1.out) b2)
    have B2 := Lib.hid (Below.next B1.out (Nat.le_refl _) b2)
    clear o2 b2 X1 F1 B1 C1
    go_wp2_with fail
    refine (specFilter_any _ _ c0 c1 xs ys w2 X2.out F2.out (by unfold maxLen; omega) (by unfold maxLen; omega)).mono ?_
    rw [← HZ.out]
    rintro e w3 ⟨v3, cv3, rfl, _, o3, b3⟩
    have U3 := Lib.hid (own_of_list o3).ints
    have Y3 := Lib.hid (Y2.out.next b3)
    have X3 := Lib.hid (X2.out.next b3)
    have F3 := Lib.hid (F2.out.next b3)
    have C3 := Lib.hid (C2.out.next b3)
    have B3 := Lib.hid (Below.next B2.out (Nat.le_refl _) b3)
    clear o3 b3 Y2 X2 F2 B2 C2
    go_wp2_with fail
    refine (sameInts_any v2 v3 cv2 cv3 w3.heap.size w3.heap.size Z Z w3 Y3.out U3.out (by omega)).mono ?_
    rintro e w4 ⟨rfl, n4, rfl⟩
    have B4 := Lib.hid (below_drewN B3.out n4)
    have Y4 : Hid (Ints .i64 (w3.drewN n4) (w3.drewN n4).heap.size v2 Z) := Y3.out
    have X4 : Hid (Ints .i64 (w3.drewN n4) (w3.drewN n4).heap.size (some ⟨b0, 0, none⟩) xs) := X3.out
    have F4 : Hid (Ints .i64 (w3.drewN n4) (w3.drewN n4).heap.size (some ⟨b1, 0, none⟩) ys) := F3.out
    have C4 : Hid (Ints .i64 (w3.drewN n4) (w3.drewN n4).heap.size (some ⟨w1.heap.size, 0, none⟩) C) := C3.out
    clear Y3 X3 F3 B3 U3 C3
    generalize w3.drewN n4 = w4 at *
    go_wp2_with fail
    have h5 := filter_any (some ⟨b1, 0, none⟩) (some ⟨w1.heap.size, 0, none⟩) c1 3 ys C w4 F4.out C4.out
    rw [← HY.out, hC3] at h5
    refine h5.mono ?_
    clear h5
    rintro e w5 ⟨v5, cv5, rfl, _, o5, b5⟩
    have V5 := Lib.hid (own_of_list o5).ints
    have Y5 := Lib.hid (Y4.out.next b5)
    have X5 := Lib.hid (X4.out.next b5)
    have C5 := Lib.hid (C4.out.next b5)
    have B5 := Lib.hid (Below.next B4.out (Nat.le_refl _) b5)
    clear o5 b5 Y4 X4 F4 B4 C4
    have HAL := Lib.hid (alive_from B5.out)
    by_cases hZ0 : Z.length = 0
    · have z4 : ((Z.length : Int) == 0) = true := by simp [hZ0]
      clear hZ0
      go_wp2_with fail
      refine HAL.out.mono ?_
      rintro e w8 ⟨rfl, b8⟩
      have B8 := Lib.hid b8
      clear b8
      go_wp2
      go_ret
      exact ⟨rfl, B8.out⟩
    · have z4 : ((Z.length : Int) == 0) = false := by rw [beq_eq_false_iff_ne]; omega
      by_cases hY0 : Y.length = 0
      · have z5 : ((Y.length : Int) == 0) = true := by simp [hY0]
        clear hZ0 hY0
        go_wp2_with fail
        refine HAL.out.mono ?_
        rintro e w8 ⟨rfl, b8⟩
        have B8 := Lib.hid b8
        clear b8
        go_wp2
        go_ret
        exact ⟨rfl, B8.out⟩
      · have z5 : ((Y.length : Int) == 0) = false := by rw [beq_eq_false_iff_ne]; omega
        have h6 := sequenceValid_any v2 cv2 w5.heap.size Z w5 Y5.out
        cases hoz : seqOk Z
        · rw [hoz] at h6
          have H6 := Lib.hid h6
          clear hZ0 hY0 h6 hoz
          go_wp2_with fail
          refine H6.out.mono ?_
          rintro e w6 ⟨rfl, rfl⟩
          go_wp2_with fail
          refine HAL.out.mono ?_
          rintro e w8 ⟨rfl, b8⟩
          have B8 := Lib.hid b8
          clear b8
          go_wp2
          go_ret
          exact ⟨rfl, B8.out⟩
        · rw [hoz] at h6
          have H6 := Lib.hid h6
          have h7 := sequenceValid_any v5 cv5 w5.heap.size Y w5 V5.out
          cases hoy : seqOk Y
          · rw [hoy] at h7
            have H7 := Lib.hid h7
            clear hZ0 hY0 h6 hoz h7 hoy
            go_wp2_with fail
            refine H6.out.mono ?_
            rintro e w6 ⟨rfl, rfl⟩
            go_wp2_with fail
            refine H7.out.mono ?_
            rintro e w6 ⟨rfl, rfl⟩
            go_wp2_with fail
            refine HAL.out.mono ?_
            rintro e w8 ⟨rfl, b8⟩
            have B8 := Lib.hid b8
            clear b8
            go_wp2
            go_ret
            exact ⟨rfl, B8.out⟩
          · rw [hoy] at h7
            have H7 := Lib.hid h7
            have hgr := flt_groups (xs := xs) (ys := ys) (by rw [← HZ.out]; exact hZ0) (by rw [← HC.out, ← HY.out]; exact hY0) (by rw [← HZ.out]; exact hoz) (by rw [← HC.out, ← HY.out]; exact hoy)
            rw [← HC.out, ← HZ.out, ← HY.out] at hgr
            obtain ⟨G, hG⟩ : ∃ G, G = fltOr xs Y := ⟨_, rfl⟩
            have hGl : G.length ≤ 127 := by rw [hG]; exact fltOr_small xs Y
            have h8 := filter_any v2 (some ⟨w1.heap.size, 0, none⟩) cv2 3 Z C w5 Y5.out C5.out
            rw [hgr, ← hG, hC3] at h8
            have H8 := Lib.hid h8
            have HG := Lib.hid hG
            have z9 : decide (G = G) = true := by simp
            clear hZ0 hY0 h6 hoz h7 hoy h8 hgr hG
            go_wp2_with fail
            refine H6.out.mono ?_
            rintro e w6 ⟨rfl, rfl⟩
            go_wp2_with fail
            refine H7.out.mono ?_
            rintro e w6 ⟨rfl, rfl⟩
            go_wp2_with fail
            refine H8.out.mono ?_
            rintro e w6 ⟨v6, cv6, rfl, _, o6, b6⟩
            have V6 := Lib.hid (own_of_list o6).ints
            have X6 := Lib.hid (X5.out.next b6)
            have U6 := Lib.hid (V5.out.next b6)
            have B6 := Lib.hid (Below.next B5.out (Nat.le_refl _) b6)
            clear o6 b6 H6 H7 H8 HAL Y5 X5 C5 V5 B5
            go_wp2_with fail
            refine (filter_any _ _ c0 cv5 xs Y w6 X6.out U6.out).mono ?_
            rw [← HG.out]
            rintro e w7 ⟨v7, cv7, rfl, _, o7, b7⟩
            have V7 := Lib.hid (own_of_list o7).ints
            have U7 := Lib.hid (V6.out.next b7)
            have B7 := Lib.hid (Below.next B6.out (Nat.le_refl _) b7)
            clear o7 b7 V6 X6 U6 B6
            go_wp2_with fail
            refine (sameInts_any v6 v7 cv6 cv7 w7.heap.size w7.heap.size G G w7 U7.out V7.out (by omega)).mono ?_
            rintro e w10 ⟨rfl, n10, rfl⟩
            go_wp2
            go_ret
            exact ⟨rfl, below_drewN B7.out n10⟩
  · go_enter Try.func11, Try.ntmps11
    go_wp2
    go_ret
    exact ⟨rfl, Below.refl _ _⟩
end Go.Proofs.Ytdnnpnaaohfgaaa
