/-
  The laws of UndoFilter, walked: they return true for every code, and write into nothing that was there. No condition.
-/
import Derived.Test.YtdnnpnaaohfgaaaSeqDraw2
import Derived.Test.YtdnnpnaaohfgaaaSeq5
import Derived.Test.YtdnnpnaaohfgaaaLaw1
namespace Go.Proofs.Ytdnnpnaaohfgaaa
open Go.RowKit

theorem undB_parts {xs fs : List Int} (h : undB xs fs = true) : seqOk xs = true ∧ seqOk fs = true ∧ 0 < fs.length ∧ el fs 0 = 1 ∧ seqTo (und xs fs xs.length) xs.length ∧ undL xs fs = und xs fs xs.length := by
  have e : undL xs fs = und xs fs xs.length := by simp [undL, h]
  simp only [undB, Bool.and_eq_true, decide_eq_true_eq, List.all_eq_true, List.mem_range] at h
  exact ⟨h.1.1.1.1, h.1.1.1.2, h.1.1.2, h.1.2, fun i hi => h.2 i hi, e⟩
theorem undL_off {xs fs : List Int} (h : undB xs fs = false) : undL xs fs = [] := by simp [undL, h]
/-- What is undone, filtered again. -/
theorem undo_facts {xs fs : List Int} (h : undB xs fs = true) (h0 : 0 < xs.length) : (undL xs fs).length = xs.length ∧ xs.length ≤ (fltOr (undL xs fs) fs).length ∧ (fltOr (undL xs fs) fs).take xs.length = xs := by
  obtain ⟨h1, h2, h3, h4, h5, e⟩ := undB_parts h
  have hl := und_length xs fs xs.length
  have hs : seqOk (und xs fs xs.length) = true := seqOk_good (by rw [hl]; exact h5) (by rw [hl]; exact seqOk_len h1)
  rw [e, fltOr_yes hs h2 (by rw [hl]; exact h0) h3]
  refine ⟨hl, by rw [cvL_length, hl]; omega, ?_⟩
  have hlen : ((cvL (und xs fs xs.length) fs).take xs.length).length = xs.length := by rw [List.length_take, cvL_length, hl]; omega
  refine list_ext9 hlen fun k hk => ?_
  rw [hlen] at hk
  have e2 : el ((cvL (und xs fs xs.length) fs).take xs.length) k = el (cvL (und xs fs xs.length) fs) k := by simp [el, hk]
  rw [e2, cvL_el (by rw [hl]; exact h0), und_cv h4 hk]
/-- What is filtered, undone. -/
theorem undo_exact {xs fs : List Int} (h1 : seqOk xs = true) (h2 : seqOk fs = true) (h3 : 0 < xs.length) (h4 : 0 < fs.length) (h5 : el fs 0 = 1) (h6 : seqOk ((fltOr xs fs).take xs.length) = true) :
    undB ((fltOr xs fs).take xs.length) fs = true ∧ undL ((fltOr xs fs).take xs.length) fs = xs := by
  rw [fltOr_yes h1 h2 h3 h4] at h6 ⊢
  have hlen : ((cvL xs fs).take xs.length).length = xs.length := by rw [List.length_take, cvL_length]; omega
  have hu := und_uniq (xs := (cvL xs fs).take xs.length) (ys := xs) h5 xs.length fun k hk => by
    rw [← cvL_el h3]
    simp [el, hk]
  have hb := undB_yes h6 h2 h4 h5 (fun i hi => by
    rw [hlen] at hi ⊢
    rw [hu i hi]
    simp only [seqOk, Bool.and_eq_true, List.all_eq_true] at h1
    exact h1.2 _ (el_mem hi))
  refine ⟨hb.1, hb.2.trans ?_⟩
  rw [hlen]
  exact list_ext9 (und_length _ _ _) fun k hk => by
    rw [und_length] at hk
    exact hu k hk
theorem fltOr_pos {xs ys : List Int} (h : (fltOr xs ys).length ≠ 0) : seqOk xs = true ∧ seqOk ys = true ∧ 0 < xs.length ∧ 0 < ys.length := by
  by_cases hc : seqOk xs = true ∧ seqOk ys = true ∧ 0 < xs.length ∧ 0 < ys.length
  · exact hc
  · rw [fltOr_no hc] at h; exact absurd rfl h
theorem fltOr_len {xs ys : List Int} (h : (fltOr xs ys).length ≠ 0) : (fltOr xs ys).length = xs.length + ys.length - 1 := by
  obtain ⟨h1, h2, h3, h4⟩ := fltOr_pos h
  rw [fltOr_yes h1 h2 h3 h4, cvL_length]
theorem own_at {xs : List Int} {w' : World} {B : Nat} {a : Option Addr} (h : OwnInts .i64 3 w' B a xs) (hx : 0 < xs.length) : ∃ b, a = some ⟨b, 0, none⟩ := by
  obtain ⟨b, _, e, _⟩ := h (List.length_pos_iff.1 hx)
  exact ⟨b, e⟩

set_option maxHeartbeats 2000000 in
theorem walkUndoFilter (a : Option Addr) (c : Nat) (ds : List Int) (w : World) (hx : Ints .u8 w w.heap.size a ds) (hw : ∀ n ∈ ds, (Lit.int .u8 n).wf = true) (hc : ds.length ≤ c) (hcm : c ≤ maxLen) :
    Calls Try.prog 9 #[.slice a ds.length c] w fun e w' => e = .returned (.bool true) ∧ Below w.heap.size w w' := by
  have hb := isByte_of_wf hw
  clear hw
  by_cases hl : ds.length ≤ 1048576
  · go_enter Try.func9, Try.ntmps9
    go_wp2_with fail
    refine (drawUndoFilter_any a c ds w hx hb hc hcm).mono ?_
    rintro e w1 ⟨xs, b0, c0, fs, b1, c1, rfl, ⟨lx, _, _, i1⟩, ⟨lf, _, _, j1⟩, bl⟩
    have X1 := Lib.hid i1
    have F1 := Lib.hid j1
    have B1 := Lib.hid bl
    clear hx hb hc hcm i1 j1 bl
    obtain ⟨S, hS⟩ : ∃ S, S = undL xs fs := ⟨_, rfl⟩
    obtain ⟨R, hR⟩ : ∃ R, R = undB xs fs := ⟨_, rfl⟩
    have HS := Lib.hid hS
    have HR := Lib.hid hR
    have hSl : S.length ≤ 1048576 := by rw [hS]; exact undL_length xs fs
    have z3 : decide (S = S) = true := by simp
    have z5 : (R != R) = false := by simp
    clear hS hR
    go_wp2_with fail
    refine (undoFilter_any _ _ c0 c1 xs fs w1 X1.out F1.out).mono ?_
    unfold UndP
    rw [← HS.out, ← HR.out]
    rintro e w2 ⟨v2, cv2, rfl, _, o2, b2⟩
    have Y2 := Lib.hid (own_of_list o2).ints
    have X2 := Lib.hid (X1.out.next b2)
    have F2 := Lib.hid (F1.out.next b2)
    have B2 := Lib.hid (Below.next B1.out (Nat.le_refl _) b2)
    clear o2 b2 X1 F1 B1
    go_wp2_with fail
    refine (specUndoFilter_any _ _ c0 c1 xs fs w2 X2.out F2.out (by unfold maxLen; omega) (by unfold maxLen; omega)).mono ?_
    unfold UndP
    rw [← HS.out, ← HR.out]
    rintro e w3 ⟨v3, cv3, rfl, _, o3, b3⟩
    have U3 := Lib.hid (own_of_list o3).ints
    have Y3 := Lib.hid (Y2.out.next b3)
    have X3 := Lib.hid (X2.out.next b3)
    have F3 := Lib.hid (F2.out.next b3)
    have B3 := Lib.hid (Below.next B2.out (Nat.le_refl _) b3)
    clear o3 b3 Y2 X2 F2 B2
    go_wp2_with fail
    refine (sameInts_any v2 v3 cv2 cv3 w3.heap.size w3.heap.size S S w3 Y3.out U3.out hSl).mono ?_
    rintro e w4 ⟨rfl, n4, rfl⟩
    have B4 := Lib.hid (below_drewN B3.out n4)
    have Y4 : Hid (Ints .i64 (w3.drewN n4) (w3.drewN n4).heap.size v2 S) := Y3.out
    have X4 : Hid (Ints .i64 (w3.drewN n4) (w3.drewN n4).heap.size (some ⟨b0, 0, none⟩) xs) := X3.out
    have F4 : Hid (Ints .i64 (w3.drewN n4) (w3.drewN n4).heap.size (some ⟨b1, 0, none⟩) fs) := F3.out
    clear Y3 X3 F3 B3 U3
    generalize w3.drewN n4 = w4 at *
    cases R
    · have hS0 : S.length = 0 := by rw [HS.out, undL_off HR.out.symm]; rfl
      have z4 : ((S.length : Int) == 0) = true := by simp [hS0]
      clear hS0
      go_wp2_with fail
      refine (alive_any w4).mono ?_
      rintro e w8 ⟨rfl, b8⟩
      have B8 := Lib.hid (Below.next B4.out (Nat.le_refl _) b8)
      clear b8
      go_wp2
      go_ret
      exact ⟨rfl, B8.out⟩
    · by_cases hx0 : xs.length = 0
      · have hS0 : S.length = 0 := by rw [HS.out, (undB_parts HR.out.symm).2.2.2.2.2, und_length, hx0]
        have z4 : ((S.length : Int) == 0) = true := by simp [hS0]
        have z6 : ((xs.length : Int) == 0) = true := by simp [hx0]
        clear hS0 hx0
        go_wp2_with fail
        refine (alive_any w4).mono ?_
        rintro e w8 ⟨rfl, b8⟩
        have B8 := Lib.hid (Below.next B4.out (Nat.le_refl _) b8)
        clear b8
        go_wp2
        go_ret
        exact ⟨rfl, B8.out⟩
      · have z6 : ((xs.length : Int) == 0) = false := by rw [beq_eq_false_iff_ne]; omega
        obtain ⟨f1, f2, f3⟩ := undo_facts HR.out.symm (by omega)
        rw [← HS.out] at f1 f2 f3
        obtain ⟨Z, hZ⟩ : ∃ Z, Z = fltOr S fs := ⟨_, rfl⟩
        rw [← hZ] at f2 f3
        have HZ := Lib.hid hZ
        have F3' := Lib.hid f3
        have hZ0 : 0 < Z.length := by omega
        have z7 : ((S.length : Int) == (xs.length : Int)) = true := by simp [f1]
        have z8 : decide (Z.take xs.length = xs) = true := by simp [f3]
        have hzl : Z.length ≤ 127 := by rw [hZ]; exact fltOr_small S fs
        clear hx0 hZ f1 f3
        go_wp2_with fail
        refine (filter_any v2 _ cv2 c1 S fs w4 Y4.out F4.out).mono ?_
        rw [← HZ.out]
        rintro e w5 ⟨v5, cv5, rfl, ⟨r5, _⟩, o5, b5⟩
        obtain ⟨b5', rfl⟩ := own_at o5 hZ0
        have V5 := Lib.hid (own_of_list o5).ints
        have X5 := Lib.hid (X4.out.next b5)
        have B5 := Lib.hid (Below.next B4.out (Nat.le_refl _) b5)
        have hlt : (Z.take xs.length).length = xs.length := by rw [List.length_take]; omega
        have h6 := sameInts_any (some ⟨b5', 0, none⟩) (some ⟨b0, 0, none⟩) cv5 c0 w5.heap.size w5.heap.size (Z.take xs.length) xs w5 V5.out.take X5.out (by omega)
        rw [hlt, z8] at h6
        have H6 := Lib.hid h6
        have hcap : xs.length ≤ cv5 := by omega
        clear o5 b5 Y4 X4 F4 B4 h6 hlt z8 hZ0
        go_wp2_with fail
        refine H6.out.mono ?_
        rintro e w6 ⟨rfl, n6, rfl⟩
        go_wp2
        go_ret
        exact ⟨rfl, below_drewN B5.out n6⟩
  · go_enter Try.func9, Try.ntmps9
    go_wp2
    go_ret
    exact ⟨rfl, Below.refl _ _⟩
set_option maxHeartbeats 2000000 in
theorem walkUndoExact (a : Option Addr) (c : Nat) (ds : List Int) (w : World) (hx : Ints .u8 w w.heap.size a ds) (hw : ∀ n ∈ ds, (Lit.int .u8 n).wf = true) (hc : ds.length ≤ c) (hcm : c ≤ maxLen) :
    Calls Try.prog 10 #[.slice a ds.length c] w fun e w' => e = .returned (.bool true) ∧ Below w.heap.size w w' := by
  have hb := isByte_of_wf hw
  clear hw
  by_cases hl : ds.length ≤ 1048576
  · go_enter Try.func10, Try.ntmps10
    go_wp2_with fail
    refine (drawUndoFilter_any a c ds w hx hb hc hcm).mono ?_
    rintro e w1 ⟨xs, b0, c0, fs, b1, c1, rfl, ⟨lx, _, _, i1⟩, ⟨lf, _, _, j1⟩, bl⟩
    have X1 := Lib.hid i1
    have F1 := Lib.hid j1
    have B1 := Lib.hid bl
    clear hx hb hc hcm i1 j1 bl
    obtain ⟨Z, hZ⟩ : ∃ Z, Z = fltOr xs fs := ⟨_, rfl⟩
    have HZ := Lib.hid hZ
    have hZl : Z.length ≤ 127 := by rw [hZ]; exact fltOr_small xs fs
    have z3 : decide (Z = Z) = true := by simp
    clear hZ
    go_wp2_with fail
    refine (filter_any _ _ c0 c1 xs fs w1 X1.out F1.out).mono ?_
    rw [← HZ.out]
    rintro e w2 ⟨v2, cv2, rfl, ⟨r2, _⟩, o2, b2⟩
    have O2 := Lib.hid o2
    have Y2 := Lib.hid (own_of_list o2).ints
    have X2 := Lib.hid (X1.out.next b2)
    have F2 := Lib.hid (F1.out.next b2)
    have B2 := Lib.hid (Below.next B1.out (Nat.le_refl _) b2)
    clear o2 b2 X1 F1 B1
    go_wp2_with fail
    refine (specFilter_any _ _ c0 c1 xs fs w2 X2.out F2.out (by unfold maxLen; omega) (by unfold maxLen; omega)).mono ?_
    rw [← HZ.out]
    rintro e w3 ⟨v3, cv3, rfl, _, o3, b3⟩
    have U3 := Lib.hid (own_of_list o3).ints
    have Y3 := Lib.hid (Y2.out.next b3)
    have X3 := Lib.hid (X2.out.next b3)
    have F3 := Lib.hid (F2.out.next b3)
    have B3 := Lib.hid (Below.next B2.out (Nat.le_refl _) b3)
    clear o3 b3 Y2 X2 F2 B2
    go_wp2_with fail
    refine (sameInts_any v2 v3 cv2 cv3 w3.heap.size w3.heap.size Z Z w3 Y3.out U3.out (by omega)).mono ?_
    rintro e w4 ⟨rfl, n4, rfl⟩
    have B4 := Lib.hid (below_drewN B3.out n4)
    have Y4 : Hid (Ints .i64 (w3.drewN n4) (w3.drewN n4).heap.size v2 Z) := Y3.out
    have X4 : Hid (Ints .i64 (w3.drewN n4) (w3.drewN n4).heap.size (some ⟨b0, 0, none⟩) xs) := X3.out
    have F4 : Hid (Ints .i64 (w3.drewN n4) (w3.drewN n4).heap.size (some ⟨b1, 0, none⟩) fs) := F3.out
    clear Y3 X3 F3 B3 U3
    generalize w3.drewN n4 = w4 at *
    by_cases hZ0 : Z.length = 0
    · have z4 : ((Z.length : Int) == 0) = true := by simp [hZ0]
      clear hZ0
      go_wp2_with fail
      refine (alive_any w4).mono ?_
      rintro e w8 ⟨rfl, b8⟩
      have B8 := Lib.hid (Below.next B4.out (Nat.le_refl _) b8)
      clear b8
      go_wp2
      go_ret
      exact ⟨rfl, B8.out⟩
    · have z4 : ((Z.length : Int) == 0) = false := by rw [beq_eq_false_iff_ne]; omega
      have hp := fltOr_pos (xs := xs) (ys := fs) (by rw [← HZ.out]; exact hZ0)
      have hzl := fltOr_len (xs := xs) (ys := fs) (by rw [← HZ.out]; exact hZ0)
      rw [← HZ.out] at hzl
      obtain ⟨h1, h2, h3, h4⟩ := hp
      have z5 : ((fs.length : Int) == 0) = false := by rw [beq_eq_false_iff_ne]; omega
      obtain ⟨b2', rfl⟩ := own_at O2.out (by omega)
      obtain ⟨b1', off1, e1, _, hc1⟩ := F4.out.at_ h4
      injection e1 with e1
      injection e1 with e1 e2
      subst e1 e2
      rw [Nat.add_zero] at hc1
      have hcap : xs.length ≤ cv2 := by omega
      have hlt : (Z.take xs.length).length = xs.length := by rw [List.length_take]; omega
      by_cases h5 : el fs 0 = 1
      · rw [h5] at hc1
        cases h6 : seqOk (Z.take xs.length)
        · have h7 := sequenceValid_any (some ⟨b2', 0, none⟩) cv2 w4.heap.size (Z.take xs.length) w4 Y4.out.take
          rw [hlt, h6] at h7
          have H7 := Lib.hid h7
          clear h1 h2 h3 h5 h6 h7 hlt hZ0 hzl O2
          go_wp2_with fail
          refine H7.out.mono ?_
          rintro e w5 ⟨rfl, rfl⟩
          go_wp2_with fail
          refine (alive_any w4).mono ?_
          rintro e w8 ⟨rfl, b8⟩
          have B8 := Lib.hid (Below.next B4.out (Nat.le_refl _) b8)
          clear b8
          go_wp2
          go_ret
          exact ⟨rfl, B8.out⟩
        · have h7 := sequenceValid_any (some ⟨b2', 0, none⟩) cv2 w4.heap.size (Z.take xs.length) w4 Y4.out.take
          rw [hlt, h6] at h7
          have H7 := Lib.hid h7
          obtain ⟨f1, f2⟩ := undo_exact h1 h2 h3 h4 h5 (by rw [← HZ.out]; exact h6)
          rw [← HZ.out] at f1 f2
          have h8 := undoFilter_any (some ⟨b2', 0, none⟩) (some ⟨b1, 0, none⟩) cv2 c1 (Z.take xs.length) fs w4 Y4.out.take F4.out
          rw [hlt] at h8
          unfold UndP at h8
          rw [f1, f2] at h8
          have H8 := Lib.hid h8
          have z8 : decide (xs = xs) = true := by simp
          clear h1 h2 h3 h5 h6 h7 h8 hlt hZ0 hzl O2 f1 f2
          go_wp2_with fail
          refine H7.out.mono ?_
          rintro e w5 ⟨rfl, rfl⟩
          go_wp2_with fail
          refine H8.out.mono ?_
          rintro e w5 ⟨v5, cv5, rfl, _, o5, b5⟩
          have V5 := Lib.hid (own_of_list o5).ints
          have X5 := Lib.hid (X4.out.next b5)
          have B5 := Lib.hid (Below.next B4.out (Nat.le_refl _) b5)
          clear o5 b5 hc1 H7 H8 X4 F4 Y4 B4
          go_wp2_with fail
          refine (sameInts_any v5 _ cv5 c0 w5.heap.size w5.heap.size xs xs w5 V5.out X5.out (by omega)).mono ?_
          rintro e w6 ⟨rfl, n6, rfl⟩
          go_wp2
          go_ret
          exact ⟨rfl, below_drewN B5.out n6⟩
      · obtain ⟨f, hf⟩ : ∃ f, f = el fs 0 := ⟨_, rfl⟩
        rw [← hf] at hc1 h5
        have z6 : (f != 1) = true := by simpa using h5
        clear h1 h2 h3 h5 hf hlt hZ0 hzl O2
        go_wp2_with fail
        refine (alive_any w4).mono ?_
        rintro e w8 ⟨rfl, b8⟩
        have B8 := Lib.hid (Below.next B4.out (Nat.le_refl _) b8)
        clear b8
        go_wp2
        go_ret
        exact ⟨rfl, B8.out⟩
  · go_enter Try.func10, Try.ntmps10
    go_wp2
    go_ret
    exact ⟨rfl, Below.refl _ _⟩
end Go.Proofs.Ytdnnpnaaohfgaaa
