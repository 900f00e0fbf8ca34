/-
  The laws of the cyclic convolution and of the prefix, walked: they return true for every code, and write into nothing that was there. No condition.
-/
import Derived.Test.YtkigjnjbjbnidaaTrLaw1
namespace Go.Proofs.Ytkigjnjbjbnidaa
open Go.RowKit

/-- The taps of a law: the first four numbers of a list, then zeros. -/
def tapL (ys : List Int) (k : Nat) : List Int := mxL (el ys) (fun _ => 0) k
theorem tap_len (ys : List Int) (k : Nat) : (tapL ys k).length = 16 := l16_length _
theorem tap_ok {ys : List Int} (h : ptOk ys = true) (k : Nat) : ptOk (tapL ys k) = true := l16_ok fun j _ => by
  have := ptOk_in h j
  split
  · exact this
  · exact (⟨by decide, by decide⟩ : (0 : Int) ≤ 0 ∧ (0 : Int) < 257)
theorem tap_el (ys : List Int) {k j : Nat} (hj : k ≤ j) : el (tapL ys k) j = 0 := by
  by_cases h : j < 16
  · unfold tapL mxL
    rw [l16_el h, if_neg (by omega)]
  · exact el_out (by rw [tap_len]; omega)
theorem tap_start {W : World} {b : Nat} (ys : List Int) (h : W.rowIs b 3 16 (fun _ => .int .i64 0)) : RowT W b 16 (tapL ys 0) :=
  ⟨tap_len ys 0, Nat.le_refl _, _, h, fun i _ => by rw [tap_el ys (Nat.zero_le i)]⟩
theorem tap_step {W : World} {b k : Nat} {ys : List Int} (h : RowT W b 16 (tapL ys k)) : RowT (W.setCell ⟨b, k, none⟩ (.int .i64 (el ys k))) b 16 (tapL ys (k + 1)) := RowT.step h
theorem row_ints {W : World} {b cap : Nat} {xs : List Int} (h : RowT W b cap xs) : Ints .i64 W W.heap.size (some ⟨b, 0, none⟩) xs := fun _ => by
  obtain ⟨h1, h2, F, h3, h4⟩ := h
  exact ⟨b, 0, rfl, h3.lt, fun i hi => by rw [Nat.zero_add, h3.cell (by omega), h4 i (by omega)]⟩
/-- The numbers of a prefixed list. -/
theorem px_in {xs : List Int} (h : ptOk xs = true) (i : Nat) : 0 ≤ el (pxOr xs 3) i ∧ el (pxOr xs 3) i < 257 := by
  rw [show pxOr xs 3 = xs.drop (16 - 3) ++ xs from pxOr_yes (N := 3) (ptOk_len h) (by omega)]
  by_cases hi : i < 16 + 3
  · rw [pre_el (ptOk_len h) (N := 3) (by omega) hi]; exact ptOk_in h _
  · rw [el_out (by have := ptOk_len h; simp; omega)]; decide
theorem px_len {xs : List Int} (h : ptOk xs = true) : (pxOr xs 3).length = 19 := by
  rw [show pxOr xs 3 = xs.drop (16 - 3) ++ xs from pxOr_yes (N := 3) (ptOk_len h) (by omega)]
  have := ptOk_len h
  simp; omega
/-- A sum of products, as the law makes it. -/
def pxT (ts ps : List Int) (k j : Nat) : Int := el ts j * el ps (3 + k - j)
theorem pxT_sum {ts ps : List Int} (h : ∀ i, 0 ≤ el ts i ∧ el ts i < 257) (h' : ∀ i, 0 ≤ el ps i ∧ el ps i < 257) (k j : Nat) (hj : j ≤ 4) : 0 ≤ sqS (pxT ts ps k) j ∧ sqS (pxT ts ps k) j ≤ 1000000 := by
  have : ∀ j, 0 ≤ sqS (pxT ts ps k) j ∧ sqS (pxT ts ps k) j ≤ 65536 * j := fun j => by
    induction j with
    | zero => exact ⟨by show (0 : Int) ≤ 0; decide, by show (0 : Int) ≤ 65536 * 0; decide⟩
    | succ j ih =>
      have := mm_in (h j) (h' (3 + k - j))
      show 0 ≤ sqS (pxT ts ps k) j + el ts j * el ps (3 + k - j) ∧ sqS (pxT ts ps k) j + el ts j * el ps (3 + k - j) ≤ 65536 * ((j + 1 : Nat) : Int)
      omega
  have := this j
  omega
/-- One term of it, as a walk wants it. -/
theorem px_nums {N A P : Int} (hN : 0 ≤ N ∧ N ≤ 1000000) (hA : 0 ≤ A ∧ A < 257) (hP : 0 ≤ P ∧ P < 257) : IntKind.i64.wrap (A * P) = A * P ∧ wrap64 (A * P) = A * P ∧ IntKind.i64.wrap (N + A * P) = N + A * P ∧ wrap64 (N + A * P) = N + A * P := by
  have h := mm_in hA hP
  exact ⟨wrapT (by omega), wrapT' (by omega), wrapT (by omega), wrapT' (by omega)⟩

set_option maxHeartbeats 4000000 in
theorem walkCyclicProduct (a : Option Addr) (c : Nat) (ds : List Int) (w : World) (hx : Ints .u8 w w.heap.size a ds) (hw : ∀ n ∈ ds, (Lit.int .u8 n).wf = true) (hc : ds.length ≤ c) (hcm : c ≤ maxLen) :
    Calls Try.prog 6 #[.slice a ds.length c] w fun e w' => e = .returned (.bool true) ∧ Below w.heap.size w w' := by
  have hb := isByte_of_wf hw
  clear hw
  by_cases hl : ds.length ≤ 1048576
  · go_enter Try.func6, Try.ntmps6
    go_wp2_with fail
    refine (drawCyclic_any a c ds w hx hb hc hcm).mono ?_
    rintro e w1 ⟨xs, a1, c1, ys, a2, c2, rfl, ⟨lx, lc, lcm⟩, ⟨ly, ld, ldm⟩, i1, i2, bl⟩
    have X1 := Lib.hid i1.ints
    have J1 := Lib.hid i2.ints
    have B1 := Lib.hid bl
    have HC := Lib.hid (And.intro (And.intro lc lcm) (And.intro ld ldm))
    clear hx hb hc hcm i1 i2 bl lc lcm ld ldm
    obtain ⟨C, hC⟩ : ∃ C, C = cpOr xs ys := ⟨_, rfl⟩
    have HCy := Lib.hid hC
    have hCl : C.length ≤ 16 := by rw [hC]; exact cpOr_length xs ys
    have z3 : decide (C = C) = true := by simp
    clear hC
    go_wp2_with fail
    have h2 := cyclicProduct_any a1 a2 c1 c2 xs ys w1 X1.out J1.out
    rw [← HCy.out] at h2
    refine h2.mono ?_
    clear h2
    rintro e w2 ⟨v2, cv2, rfl, _, o2, b2⟩
    have X2 := Lib.hid (X1.out.next b2)
    have J2 := Lib.hid (J1.out.next b2)
    have Y2 := Lib.hid (own_of_list o2).ints
    have B2 := Lib.hid (Below.next B1.out (Nat.le_refl _) b2)
    clear o2 b2 X1 J1 B1
    go_wp2_with fail
    have h3 := specCyclic_any a1 a2 c1 c2 xs ys w2 X2.out J2.out (by unfold maxLen; omega) (by unfold maxLen; omega)
    rw [← HCy.out] at h3
    refine h3.mono ?_
    clear h3
    rintro e w3 ⟨v3, cv3, rfl, _, o3, b3⟩
    have U3 := Lib.hid (own_of_list o3).ints
    have X3 := Lib.hid (X2.out.next b3)
    have J3 := Lib.hid (J2.out.next b3)
    have Y3 := Lib.hid (Y2.out.next b3)
    have B3 := Lib.hid (Below.next B2.out (Nat.le_refl _) b3)
    clear o3 b3 X2 J2 Y2 B2
    go_wp2_with fail
    refine (sameInts_any v2 v3 cv2 cv3 w3.heap.size w3.heap.size C C w3 Y3.out U3.out (by omega)).mono ?_
    rintro e w4 ⟨rfl, n4, rfl⟩
    have B4 := Lib.hid (below_drewN B3.out n4)
    have Y4 : Hid (Ints .i64 (w3.drewN n4) (w3.drewN n4).heap.size v2 C) := Y3.out
    have X4 : Hid (Ints .i64 (w3.drewN n4) (w3.drewN n4).heap.size a1 xs) := X3.out
    have J4 : Hid (Ints .i64 (w3.drewN n4) (w3.drewN n4).heap.size a2 ys) := J3.out
    clear Y3 X3 J3 U3 B3
    generalize w3.drewN n4 = w4 at *
    go_wp2_with fail
    have h5 := cyclicProduct_any a2 a1 c2 c1 ys xs w4 J4.out X4.out
    rw [cp_comm_list xs ys, ← HCy.out] at h5
    refine h5.mono ?_
    clear h5
    rintro e w5 ⟨v5, cv5, rfl, _, o5, b5⟩
    have U5 := Lib.hid (own_of_list o5).ints
    have X5 := Lib.hid (X4.out.next b5)
    have J5 := Lib.hid (J4.out.next b5)
    have Y5 := Lib.hid (Y4.out.next b5)
    have B5 := Lib.hid (Below.next B4.out (Nat.le_refl _) b5)
    clear o5 b5 X4 J4 Y4 B4
    go_wp2_with fail
    refine (sameInts_any v2 v5 cv2 cv5 w5.heap.size w5.heap.size C C w5 Y5.out U5.out (by omega)).mono ?_
    rintro e w6 ⟨rfl, n6, rfl⟩
    have B6 := Lib.hid (below_drewN B5.out n6)
    have Y6 : Hid (Ints .i64 (w5.drewN n6) (w5.drewN n6).heap.size v2 C) := Y5.out
    have X6 : Hid (Ints .i64 (w5.drewN n6) (w5.drewN n6).heap.size a1 xs) := X5.out
    have J6 : Hid (Ints .i64 (w5.drewN n6) (w5.drewN n6).heap.size a2 ys) := J5.out
    clear Y5 X5 J5 U5 B5
    generalize w5.drewN n6 = w6 at *
    by_cases hC0 : C.length = 0
    · have z4 : ((C.length : Int) == 0) = true := by simp [hC0]
      clear hC0
      go_wp2_with fail
      refine (alive_any w6).mono ?_
      rintro e w88 ⟨rfl, b88⟩
      have B88 := Lib.hid (Below.next B6.out (Nat.le_refl _) b88)
      clear b88
      go_wp2
      go_ret
      exact ⟨rfl, B88.out⟩
    · have z4 : ((C.length : Int) == 0) = false := by rw [beq_eq_false_iff_ne]; omega
      obtain ⟨hok, hok'⟩ := cpOr_pos (xs := xs) (ys := ys) (by rw [← HCy.out]; exact hC0)
      have hCok := (cpOr_ok hok hok').1
      rw [← HCy.out] at hCok
      have HAt := Lib.hid (fun k (hk : k < 16) => show el (ftOr C) k = el (ftOr xs) k * el (ftOr ys) k % 257 by rw [HCy.out]; exact ft_cp_at hok hok' hk)
      have h1 := (ftOr_ok hok).1
      have h2 := (ftOr_ok hok').1
      have h3 := (ftOr_ok hCok).1
      obtain ⟨P, hP⟩ : ∃ P, P = ftOr xs := ⟨_, rfl⟩
      obtain ⟨Q, hQ⟩ : ∃ Q, Q = ftOr ys := ⟨_, rfl⟩
      obtain ⟨R, hR⟩ : ∃ R, R = ftOr C := ⟨_, rfl⟩
      rw [← hP, ← hQ, ← hR] at HAt
      rw [← hP] at h1
      rw [← hQ] at h2
      rw [← hR] at h3
      have HL := Lib.hid (And.intro (ptOk_len h1) (And.intro (ptOk_len h2) (ptOk_len h3)))
      have HIn := Lib.hid (fun k => And.intro (ptOk_in h1 k) (ptOk_in h2 k))
      have HF := Lib.hid (fun W => And.intro (fun A c (hA : Ints .i64 W W.heap.size A xs) => show Calls Try.prog 15 #[.slice A xs.length c] W (ListPostC P W) by rw [hP]; exact forwardTransform_any A c xs W hA) (fun A c (hA : Ints .i64 W W.heap.size A ys) => show Calls Try.prog 15 #[.slice A ys.length c] W (ListPostC Q W) by rw [hQ]; exact forwardTransform_any A c ys W hA))
      have HFC := Lib.hid (fun W A c (hA : Ints .i64 W W.heap.size A C) => show Calls Try.prog 15 #[.slice A C.length c] W (ListPostC R W) by rw [hR]; exact forwardTransform_any A c C W hA)
      clear hok hok' hCok h1 h2 h3 hP hQ hR hC0 HCy
      go_wp2_with fail
      refine ((HF.out w6).1 a1 c1 X6.out).mono ?_
      rintro e w7 ⟨v7, cv7, rfl, _, o7, b7⟩
      have P7 := Lib.hid (own_of_list o7).ints
      have J7 := Lib.hid (J6.out.next b7)
      have Y7 := Lib.hid (Y6.out.next b7)
      have B7 := Lib.hid (Below.next B6.out (Nat.le_refl _) b7)
      clear o7 b7 X6 J6 Y6 B6
      go_wp2_with fail
      refine ((HF.out w7).2 a2 c2 J7.out).mono ?_
      rintro e w8 ⟨v8, cv8, rfl, _, o8, b8⟩
      have Q8 := Lib.hid (own_of_list o8).ints
      have P8 := Lib.hid (P7.out.next b8)
      have Y8 := Lib.hid (Y7.out.next b8)
      have B8 := Lib.hid (Below.next B7.out (Nat.le_refl _) b8)
      clear o8 b8 P7 J7 Y7 B7
      go_wp2_with fail
      refine (HFC.out w8 v2 cv2 Y8.out).mono ?_
      rintro e w9 ⟨v9, cv9, rfl, _, o9, b9⟩
      have R9 := Lib.hid (own_of_list o9).ints
      have P9 := Lib.hid (P8.out.next b9)
      have Q9 := Lib.hid (Q8.out.next b9)
      have B9 := Lib.hid (Below.next B8.out (Nat.le_refl _) b9)
      clear o9 b9 P8 Q8 Y8 B8
      obtain ⟨bp, op, rfl⟩ := ints_addr P9.out (by have := HL.out; omega)
      obtain ⟨bq, oq, rfl⟩ := ints_addr Q9.out (by have := HL.out; omega)
      obtain ⟨br, or', rfl⟩ := ints_addr R9.out (by have := HL.out; omega)
      go_wp2
      go_loopw [9] (fun i wr => ∃ k d : Nat, k ≤ 16 ∧ i = .int .i64 k ∧ wr = w9.drewN d) (fun i _ => 16 - (intOf i).toNat)
      case atStart => exact ⟨0, 0, Nat.zero_le _, rfl, rfl⟩
      case round =>
        obtain ⟨k, d, hk, rfl, hwd⟩ := hrel
        have HWd := Lib.hid hwd
        have PW := Lib.hid (show Ints .i64 wr wr.heap.size (some ⟨bp, op, none⟩) P by rw [hwd]; exact P9.out)
        have QW := Lib.hid (show Ints .i64 wr wr.heap.size (some ⟨bq, oq, none⟩) Q by rw [hwd]; exact Q9.out)
        have RW := Lib.hid (show Ints .i64 wr wr.heap.size (some ⟨br, or', none⟩) R by rw [hwd]; exact R9.out)
        clear hwd
        by_cases hlt : k < 16
        · have hkP : k < P.length := by have := HL.out; omega
          have hkQ : k < Q.length := by have := HL.out; omega
          have hkR : k < R.length := by have := HL.out; omega
          have k1 := ints_cell PW.out hkP
          have k2 := ints_cell QW.out hkQ
          have k3 := ints_cell RW.out hkR
          have hAt := HAt.out k hlt
          obtain ⟨hp, hq⟩ := HIn.out k
          generalize el P k = A1 at *
          generalize el Q k = A2 at *
          generalize el R k = A3 at *
          have z5 : (A3 != A3) = false := by simp
          obtain ⟨q1, u1, hq1, r1, r1', r2, hu1, _⟩ := mm_nums hp hq
          rw [← hAt] at hu1
          subst hu1
          rw [hq1] at r1 r1' r2
          clear hAt hp hq hq1
          go_wp2
          go_quiet (fail)
          go_wp2
          go_roundw
          case rel => exact ⟨k + 1, _, by omega, by go_num, by rw [HWd.out, World.drewN_drewN]⟩
          case measure => simp [intOf]; omega
        · obtain rfl : k = 16 := by omega
          have BW := Lib.hid (show Below w.heap.size w wr by rw [HWd.out]; exact below_drewN B9.out d)
          go_wp2
          go_ret
          exact ⟨rfl, BW.out⟩
  · go_enter Try.func6, Try.ntmps6
    go_wp2
    go_ret
    exact ⟨rfl, Below.refl _ _⟩
set_option maxHeartbeats 6000000 in
theorem walkPrefixProduct (a : Option Addr) (c : Nat) (ds : List Int) (w : World) (hx : Ints .u8 w w.heap.size a ds) (hw : ∀ n ∈ ds, (Lit.int .u8 n).wf = true) (hc : ds.length ≤ c) (hcm : c ≤ maxLen) :
    Calls Try.prog 7 #[.slice a ds.length c] w fun e w' => e = .returned (.bool true) ∧ Below w.heap.size w w' := by
  have hb := isByte_of_wf hw
  clear hw
  by_cases hl : ds.length ≤ 1048576
  · go_enter Try.func7, Try.ntmps7
    go_wp2_with fail
    refine (drawCyclic_any a c ds w hx hb hc hcm).mono ?_
    rintro e w1 ⟨xs, a1, c1, ys, a2, c2, rfl, ⟨lx, lc, lcm⟩, ⟨ly, ld, ldm⟩, i1, i2, bl⟩
    have X1 := Lib.hid i1.ints
    have J1 := Lib.hid i2.ints
    have B1 := Lib.hid bl
    have HC := Lib.hid (And.intro (And.intro lc lcm) (And.intro ld ldm))
    clear hx hb hc hcm i1 i2 bl lc lcm ld ldm
    have hlc1 : xs.length ≤ c1 := HC.out.1.1
    obtain ⟨P, hP⟩ : ∃ P, P = pxOr xs 3 := ⟨_, rfl⟩
    obtain ⟨C, hC⟩ : ∃ C, C = cpOr xs ys := ⟨_, rfl⟩
    have HCy := Lib.hid hC
    have HPx := Lib.hid hP
    clear hC hP
    go_wp2_with fail
    have h2 := addPrefix_three a1 c1 xs w1 X1.out hlc1
    rw [← HPx.out] at h2
    refine h2.mono ?_
    clear h2
    rintro e w2 ⟨v2, cv2, rfl, _, o2, b2⟩
    have X2 := Lib.hid (X1.out.next b2)
    have J2 := Lib.hid (J1.out.next b2)
    have Y2 := Lib.hid (own_of_list o2).ints
    have B2 := Lib.hid (Below.next B1.out (Nat.le_refl _) b2)
    clear o2 b2 X1 J1 B1 hlc1
    by_cases hP0 : P.length = 0
    · have z4 : ((P.length : Int) == 0) = true := by simp [hP0]
      clear hP0
      go_wp2_with fail
      refine (alive_any w2).mono ?_
      rintro e w88 ⟨rfl, b88⟩
      have B88 := Lib.hid (Below.next B2.out (Nat.le_refl _) b88)
      clear b88
      go_wp2
      go_ret
      exact ⟨rfl, B88.out⟩
    · have z4 : ((P.length : Int) == 0) = false := by rw [beq_eq_false_iff_ne]; omega
      go_wp2_with fail
      have h3 := cyclicProduct_any a1 a2 c1 c2 xs ys w2 X2.out J2.out
      rw [← HCy.out] at h3
      refine h3.mono ?_
      clear h3
      rintro e w3 ⟨v3, cv3, rfl, _, o3, b3⟩
      have X3 := Lib.hid (X2.out.next b3)
      have J3 := Lib.hid (J2.out.next b3)
      have Y3 := Lib.hid (Y2.out.next b3)
      have B3 := Lib.hid (Below.next B2.out (Nat.le_refl _) b3)
      clear o3 b3 X2 J2 Y2 B2
      by_cases hC0 : C.length = 0
      · have z5 : ((C.length : Int) == 0) = true := by simp [hC0]
        clear hC0
        go_wp2_with fail
        refine (alive_any w3).mono ?_
        rintro e w88 ⟨rfl, b88⟩
        have B88 := Lib.hid (Below.next B3.out (Nat.le_refl _) b88)
        clear b88
        go_wp2
        go_ret
        exact ⟨rfl, B88.out⟩
      · have z5 : ((C.length : Int) == 0) = false := by rw [beq_eq_false_iff_ne]; omega
        obtain ⟨hok, hok'⟩ := cpOr_pos (xs := xs) (ys := ys) (by rw [← HCy.out]; exact hC0)
        have HL := Lib.hid (And.intro (ptOk_len hok) (And.intro (ptOk_len hok') (show P.length = 19 by rw [HPx.out]; exact px_len hok)))
        have HPi := Lib.hid (fun i => show 0 ≤ el P i ∧ el P i < 257 by rw [HPx.out]; exact px_in hok i)
        have HTok := Lib.hid (tap_ok hok' 4)
        have HWant := Lib.hid (fun k (hk : k < 16) => show sqS (pxT (tapL ys 4) P k) 4 % 257 = el (cpOr xs (tapL ys 4)) k by
          rw [HPx.out, pxOr_ap hok]
          exact pre_at hok HTok.out (fun j hj => tap_el ys hj) hk)
        have HWl := Lib.hid (ptOk_len (cpOr_ok hok HTok.out).1)
        have HTi := Lib.hid (fun i => ptOk_in HTok.out i)
        have hmk := fun W => makeT W
        have R4 := Lib.hid (tap_start ys (made_row w3))
        have BA := Lib.hid (alloc_belowT w3 (.cells (madeCells #[.int .i64 0] 16) 3))
        have B4 := Lib.hid (Below.next B3.out (Nat.le_refl _) BA.out)
        have hsz3 : w.heap.size ≤ w3.heap.size := B3.out.size
        obtain ⟨by', oy, rfl⟩ := ints_addr J3.out (by have := HL.out; omega)
        obtain ⟨bp, op, rfl⟩ := ints_addr Y3.out (by omega)
        clear hok hok' hP0 hC0 HCy HPx HTok
        go_wp2
        clear hmk
        go_loopw [7] (fun i wr => ∃ k : Nat, k ≤ 4 ∧ i = .int .i64 k ∧ RowT wr w3.heap.size 16 (tapL ys k) ∧ Below w3.heap.size w3 wr) (fun i _ => 4 - (intOf i).toNat)
        case atStart => exact ⟨0, Nat.zero_le _, rfl, R4.out, BA.out⟩
        case round =>
          obtain ⟨k, hk, rfl, hrow, hbel⟩ := hrel
          have R5 := Lib.hid hrow
          have B5 := Lib.hid hbel
          clear hrow hbel R4 BA
          by_cases hlt : k < 4
          · have hky : k < ys.length := by have := HL.out; omega
            have cY := ints_cell (J3.out.next B5.out) hky
            have c0 := R5.out.cell (k := k) (by omega)
            have f0 := R5.out.frozen k
            have RStep := Lib.hid (tap_step R5.out)
            have BS := Lib.hid (B5.out.setCell (p := ⟨w3.heap.size, k, none⟩) (Nat.le_refl _) (.int .i64 (el ys k)))
            have hki : (k : Int) < 16 := by omega
            go_wp2
            go_roundw
            case rel => exact ⟨k + 1, by omega, by go_num, RStep.out, BS.out⟩
            case measure => simp [intOf]; omega
          · obtain rfl : k = 4 := by omega
            have T5 := Lib.hid (row_ints R5.out)
            have X5 := Lib.hid (X3.out.next B5.out)
            have Y5 := Lib.hid (Y3.out.next B5.out)
            have B6 := Lib.hid (Below.next B3.out (Nat.le_refl _) B5.out)
            have HTl := Lib.hid (tap_len ys 4)
            generalize tapL ys 4 = ts at *
            obtain ⟨D, hD⟩ : ∃ D, D = cpOr xs ts := ⟨_, rfl⟩
            have HD := Lib.hid (fun W A A' c c' hA hA' => show Calls Try.prog 22 #[.slice A xs.length c, .slice A' 16 c'] W (ListPostC D W) by
              have h := cyclicProduct_any A A' c c' xs ts W hA hA'
              rw [HTl.out, ← hD] at h
              exact h)
            have HD2 := Lib.hid (fun W A A' c c' hA hA' => show Calls Try.prog 23 #[.slice A xs.length c, .slice A' 16 c'] W (ListPostC D W) by
              have h := specCyclic_any A A' c c' xs ts W hA hA' (by unfold maxLen; omega) (by rw [HTl.out]; decide)
              rw [HTl.out, ← hD] at h
              exact h)
            rw [← hD] at HWant HWl
            clear hD J3 X3 Y3 B3 R5 B4
            go_wp2_with fail
            refine (HD.out _ _ _ _ _ X5.out T5.out).mono ?_
            rintro e w6 ⟨v6, cv6, rfl, _, o6, b6⟩
            have D6 := Lib.hid (own_of_list o6).ints
            have X6 := Lib.hid (X5.out.next b6)
            have T6 := Lib.hid (T5.out.next b6)
            have Y6 := Lib.hid (Y5.out.next b6)
            have B7 := Lib.hid (Below.next B6.out (Nat.le_refl _) b6)
            obtain ⟨bd, od, rfl⟩ := ints_addr D6.out (by have := HWl.out; omega)
            clear o6 b6 X5 T5 Y5 B5 B6
            go_wp2
            go_loopw [9] (fun i wr => ∃ k d : Nat, k ≤ 16 ∧ i = .int .i64 k ∧ wr = w6.drewN d) (fun i _ => 16 - (intOf i).toNat)
            case atStart => exact ⟨0, 0, Nat.zero_le _, rfl, rfl⟩
            case round =>
              obtain ⟨k, d, hk, rfl, hwd⟩ := hrel
              have HWd := Lib.hid hwd
              clear hwd
              by_cases hlt : k < 16
              · go_wp2
                rename World => W0
                go_loopw [10, 11] (fun n j wr => ∃ q d2 : Nat, q ≤ 4 ∧ j = .int .i64 q ∧ n = .int .i64 (sqS (pxT ts P k) q) ∧ wr = w6.drewN d2) (fun _ j _ => 4 - (intOf j).toNat)
                case atStart => exact ⟨0, d, Nat.zero_le _, rfl, rfl, HWd.out⟩
                case round =>
                  obtain ⟨q, d2, hq, rfl, rfl, hwd⟩ := hrel
                  have HWq := Lib.hid hwd
                  have TW := Lib.hid (show Ints .i64 wr wr.heap.size (some ⟨w3.heap.size, 0, none⟩) ts by rw [hwd]; exact T6.out)
                  have PW := Lib.hid (show Ints .i64 wr wr.heap.size (some ⟨bp, op, none⟩) P by rw [hwd]; exact Y6.out)
                  have DW := Lib.hid (show Ints .i64 wr wr.heap.size (some ⟨bd, od, none⟩) D by rw [hwd]; exact D6.out)
                  clear hwd
                  by_cases hlq : q < 4
                  · obtain ⟨m, hm⟩ : ∃ m, m = 3 + k - q := ⟨_, rfl⟩
                    have hqT : q < ts.length := by have := HTl.out; omega
                    have hmP : m < P.length := by have := HL.out; omega
                    have c1' := ints_cell TW.out hqT
                    rw [Nat.zero_add] at c1'
                    have c2' := ints_cell PW.out hmP
                    have hbA : -1000000000000 ≤ 3 + (k : Int) ∧ 3 + (k : Int) ≤ 1000000000000 := by omega
                    have hbB : -1000000000000 ≤ 3 + (k : Int) - (q : Int) ∧ 3 + (k : Int) - (q : Int) ≤ 1000000000000 := by omega
                    have heq : 3 + (k : Int) - (q : Int) = (m : Int) := by omega
                    have hmi : (m : Int) < (P.length : Int) := by omega
                    have hqi : (q : Int) < 16 := by omega
                    have HS := Lib.hid (show sqS (pxT ts P k) (q + 1) = sqS (pxT ts P k) q + el ts q * el P m by rw [hm]; rfl)
                    have hN := pxT_sum HTi.out HPi.out k q hq
                    have hA := HTi.out q
                    have hB := HPi.out m
                    generalize sqS (pxT ts P k) q = N at *
                    generalize el ts q = A at *
                    generalize el P m = Pm at *
                    obtain ⟨r1, r1', r2, r2'⟩ := px_nums hN hA hB
                    have t1 : IntKind.i64.wrap (3 + (k : Int)) = 3 + (k : Int) := wrapT hbA
                    have t1' : wrap64 (3 + (k : Int)) = 3 + (k : Int) := wrapT' hbA
                    have t2 : IntKind.i64.wrap (3 + (k : Int) - (q : Int)) = (m : Int) := (wrapT hbB).trans heq
                    have t2' : wrap64 (3 + (k : Int) - (q : Int)) = (m : Int) := (wrapT' hbB).trans heq
                    clear hN hA hB hm hbA hbB heq
                    go_wp2
                    go_quiet (fail)
                    go_wp2
                    go_roundw
                    case rel => exact ⟨q + 1, _, by omega, by go_num, by rw [HS.out], by rw [HWq.out, World.drewN_drewN]⟩
                    case measure => simp [intOf]; omega
                  · obtain rfl : q = 4 := by omega
                    have hkD : k < D.length := by have := HWl.out; omega
                    have c3' := ints_cell DW.out hkD
                    have hN := pxT_sum HTi.out HPi.out k 4 hq
                    have hW := HWant.out k hlt
                    have r2 : (sqS (pxT ts P k) 4).tmod 257 = el D k := by rw [tmodT hN.1, hW]
                    generalize sqS (pxT ts P k) 4 = N at *
                    generalize el D k = Dk at *
                    have z6 : (Dk != Dk) = false := by simp
                    clear hN hW
                    go_wp2
                    go_roundw
                    case rel => exact ⟨k + 1, d2, by omega, by go_num, HWq.out⟩
                    case measure => simp [intOf]; omega
              · obtain rfl : k = 16 := by omega
                have XW := Lib.hid (show Ints .i64 wr wr.heap.size a1 xs by rw [HWd.out]; exact X6.out)
                have TW := Lib.hid (show Ints .i64 wr wr.heap.size (some ⟨w3.heap.size, 0, none⟩) ts by rw [HWd.out]; exact T6.out)
                have DW := Lib.hid (show Ints .i64 wr wr.heap.size (some ⟨bd, od, none⟩) D by rw [HWd.out]; exact D6.out)
                have BW := Lib.hid (show Below w.heap.size w wr by rw [HWd.out]; exact below_drewN B7.out d)
                have z7 : decide (D = D) = true := by simp
                clear HWd X6 T6 D6 Y6 B7
                go_wp2_with fail
                refine (HD2.out _ _ _ _ _ XW.out TW.out).mono ?_
                rintro e w8 ⟨v8, cv8, rfl, _, o8, b8⟩
                have E8 := Lib.hid (own_of_list o8).ints
                have D8 := Lib.hid (DW.out.next b8)
                have B8 := Lib.hid (Below.next BW.out (Nat.le_refl _) b8)
                clear o8 b8
                go_wp2_with fail
                refine (sameInts_any (some ⟨bd, od, none⟩) v8 cv6 cv8 w8.heap.size w8.heap.size D D w8 D8.out E8.out (by have := HWl.out; omega)).mono ?_
                rintro e w9 ⟨rfl, n9, rfl⟩
                go_wp2
                go_ret
                exact ⟨rfl, below_drewN B8.out n9⟩
  · go_enter Try.func7, Try.ntmps7
    go_wp2
    go_ret
    exact ⟨rfl, Below.refl _ _⟩
end Go.Proofs.Ytkigjnjbjbnidaa
