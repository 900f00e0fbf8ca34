/-
  The laws of TransformRoot, ForwardTransform, BackwardTransform and of transforming twice, walked: they return true for every code, and write into nothing that was there. No condition.
-/
import Derived.Test.YtkigjnjbjbnidaaTrDraw
import Derived.Test.YtkigjnjbjbnidaaTr8
import Derived.Test.YtkigjnjbjbnidaaTr10
import Derived.Test.YtkigjnjbjbnidaaLaw1
namespace Go.Proofs.Ytkigjnjbjbnidaa
open Go.RowKit

theorem ints_cell {k : IntKind} {w : World} {B b off i : Nat} {xs : List Int} (h : Ints k w B (some ⟨b, off, none⟩) xs) (hi : i < xs.length) : w.cell? ⟨b, off + i, none⟩ = some (.int k (el xs i)) := by
  obtain ⟨b', off', e, _, hc⟩ := h.at_ hi
  injection e with e
  injection e with e1 e2
  subst e1 e2
  exact hc
theorem ints_cell0 {k : IntKind} {w : World} {B b off : Nat} {xs : List Int} (h : Ints k w B (some ⟨b, off, none⟩) xs) (hi : 0 < xs.length) : w.cell? ⟨b, off, none⟩ = some (.int k (el xs 0)) := ints_cell (i := 0) h hi
theorem ints_addr {k : IntKind} {w : World} {B : Nat} {a : Option Addr} {xs : List Int} (h : Ints k w B a xs) (hi : 0 < xs.length) : ∃ b off, a = some ⟨b, off, none⟩ := by
  obtain ⟨b, off, e, _⟩ := h.at_ hi
  exact ⟨b, off, e⟩
theorem alive_fromT {w W : World} (hB : Below w.heap.size w W) : Calls Try.prog 13 #[] W fun e w' => e = .returned (.bool true) ∧ Below w.heap.size w w' := (alive_any W).mono fun _ _ ⟨h1, h2⟩ => ⟨h1, Below.next hB (Nat.le_refl _) h2⟩
/-- A list with a first number alone, as a law makes it. -/
def oneL (c : Int) : List Int := l16 fun j => if j = 0 then c else 0
theorem makeT (w : World) : (Instr.makeSlice 26 (.int .i64 16) (.int .i64 16)).run Try.prog w = .ok (.slice (some ⟨w.heap.size, 0, none⟩) 16 16) (w.alloc (.cells (madeCells #[.int .i64 0] 16) 3)) :=
  run_make_row' (P := Try.prog) 26 3 (.int .i64 0) 8 Try.underlying26 Try.infoInt rfl .i64 .i64 16 (by omega) (by omega) w
theorem made_row (w : World) : (w.alloc (.cells (madeCells #[.int .i64 0] 16) 3)).rowIs w.heap.size 3 16 (fun _ => .int .i64 0) := World.rowIs_made w (.int .i64 0) 16 3
theorem one_ints {W : World} {b : Nat} (h : W.rowIs b 3 16 (fun _ => .int .i64 0)) (c : Int) : Ints .i64 (W.setCell ⟨b, 0, none⟩ (.int .i64 c)) (W.setCell ⟨b, 0, none⟩ (.int .i64 c)).heap.size (some ⟨b, 0, none⟩) (oneL c) := by
  have h2 : (W.setCell ⟨b, 0, none⟩ (.int .i64 c)).rowIs b 3 16 (fun i => .int .i64 (el (oneL c) i)) := (h.set 0 (.int .i64 c)).congr fun i hi => by
    unfold oneL
    rw [l16_el hi]
    by_cases e : i = 0
    · simp [e]
    · simp [e]
  exact ints_of_row h2 (l16_length _).symm h2.lt
theorem sum_bound {xs : List Int} (h : ptOk xs = true) {k : Nat} (hk : k ≤ 16) : 0 ≤ sqS (el xs) k ∧ sqS (el xs) k ≤ 8192 := by
  have : ∀ k, 0 ≤ sqS (el xs) k ∧ sqS (el xs) k ≤ 256 * k := fun k => by
    induction k with
    | zero => exact ⟨by show (0 : Int) ≤ 0; decide, by show (0 : Int) ≤ 256 * 0; decide⟩
    | succ k ih =>
      have := ptOk_in h k
      show 0 ≤ sqS (el xs) k + el xs k ∧ sqS (el xs) k + el xs k ≤ 256 * ((k + 1 : Nat) : Int)
      omega
  have := this k
  omega

set_option maxHeartbeats 1000000 in
theorem walkTransformRoot (a : Option Addr) (c : Nat) (ds : List Int) (w : World) (_hx : Ints .u8 w w.heap.size a ds) (_hw : ∀ n ∈ ds, (Lit.int .u8 n).wf = true) (_hc : ds.length ≤ c) (_hcm : c ≤ maxLen) :
    Calls Try.prog 3 #[.slice a ds.length c] w fun e w' => e = .returned (.bool true) ∧ Below w.heap.size w w' := by
  by_cases hl : ds.length ≤ 1048576
  · go_enter Try.func3, Try.ntmps3
    have H1 := Lib.hid (transformRoot_any w)
    have H2 := Lib.hid (specTransformRoot_any w)
    have HA := Lib.hid (alive_fromT (Below.refl w.heap.size w))
    go_wp2_with (first | (go_at_call 11; (with_reducible refine H1.out.mono ?_); rintro e w1 ⟨rfl, rfl⟩) | (go_at_call 12; (with_reducible refine H2.out.mono ?_); rintro e w1 ⟨rfl, rfl⟩))
    go_loop [4, 5] (fun p i => ∃ k m : Nat, (k ≤ 16 ∧ m = k + 1) ∧ i = .int .i64 m ∧ p = .int .i64 (tw k)) (fun _ i => 17 - (intOf i).toNat)
    case atStart => exact ⟨0, 1, ⟨Nat.zero_le _, rfl⟩, rfl, rfl⟩
    case round =>
      obtain ⟨k, m, ⟨hk, hm⟩, rfl, rfl⟩ := hrel
      by_cases hlt : k < 16
      · have hT := tw_one k
        rw [← hm] at hT
        have HK := Lib.hid (show tw (k + 1) = tw k * 2 % 257 from (tw_one k).symm)
        have hi := tw_in k
        have hroot := tw_root m (by omega) (by omega)
        have hmi : (m : Int) ≤ 16 := by omega
        have HM := Lib.hid hm
        obtain ⟨q, v, hq, r1, r1', r2, hv, _⟩ := mm_nums hi (res_in (a := 2))
        rw [hT] at hv
        subst hv
        rw [hq] at r1 r1' r2
        have zz : ∃ b : Bool, (tw m == 1) = b ∧ ((m : Int) == 16) = b := by
          by_cases h : m = 16
          · exact ⟨true, by rw [beq_iff_eq]; exact hroot.2 h, by rw [beq_iff_eq]; omega⟩
          · exact ⟨false, by rw [beq_eq_false_iff_ne]; exact fun x => h (hroot.1 x), by rw [beq_eq_false_iff_ne]; omega⟩
        clear hT hroot hq hm
        generalize tw m = V at *
        generalize tw k = P at *
        obtain ⟨b, z1, z2⟩ := zz
        cases b
        all_goals
          go_wp2
          go_round
          case rel => exact ⟨k + 1, m + 1, ⟨by omega, by have := HM.out; omega⟩, by go_num, by rw [HK.out, ← tmodT (n := P * 2) (by omega), r2]⟩
          case measure => have := HM.out; simp [intOf]; omega
      · obtain rfl : k = 16 := by omega
        subst hm
        go_wp2_with (go_at_call 13; (with_reducible refine HA.out.mono ?_); rintro e w1 ⟨rfl, b1⟩; have B1 := Lib.hid b1; clear b1)
        go_ret
        exact ⟨rfl, B1.out⟩
  · go_enter Try.func3, Try.ntmps3
    go_wp2
    go_ret
    exact ⟨rfl, Below.refl _ _⟩
set_option maxHeartbeats 2000000 in
theorem walkBackwardTransform (a : Option Addr) (c : Nat) (ds : List Int) (w : World) (hx : Ints .u8 w w.heap.size a ds) (hw : ∀ n ∈ ds, (Lit.int .u8 n).wf = true) (hc : ds.length ≤ c) (hcm : c ≤ maxLen) :
    Calls Try.prog 5 #[.slice a ds.length c] w fun e w' => e = .returned (.bool true) ∧ Below w.heap.size w w' := by
  have hb := isByte_of_wf hw
  clear hw
  by_cases hl : ds.length ≤ 1048576
  · go_enter Try.func5, Try.ntmps5
    go_wp2_with fail
    refine (drawBackward_any a c ds w hx hb hc hcm).mono ?_
    rintro e w1 ⟨xs, a1, c1, rfl, ⟨lx, lc, lcm⟩, i1, bl⟩
    have X1 := Lib.hid i1.ints
    have B1 := Lib.hid bl
    clear hx hb hc hcm i1 bl
    obtain ⟨Z, hZ⟩ : ∃ Z, Z = btOr xs := ⟨_, rfl⟩
    have HZ := Lib.hid hZ
    have hZl : Z.length ≤ 16 := by rw [hZ]; exact btOr_length xs
    have z3 : decide (Z = Z) = true := by simp
    clear hZ
    go_wp2_with fail
    refine (backwardTransform_any a1 c1 xs w1 X1.out).mono ?_
    rw [← HZ.out]
    rintro e w2 ⟨v2, cv2, rfl, r2, o2, b2⟩
    have X2 := Lib.hid (X1.out.next b2)
    have Y2 := Lib.hid (own_of_list o2).ints
    have B2 := Lib.hid (Below.next B1.out (Nat.le_refl _) b2)
    clear o2 b2 X1 B1
    go_wp2_with fail
    refine (specBackward_any a1 c1 xs w2 X2.out (by unfold maxLen; omega)).mono ?_
    rw [← HZ.out]
    rintro e w3 ⟨v3, cv3, rfl, _, o3, b3⟩
    have U3 := Lib.hid (own_of_list o3).ints
    have Y3 := Lib.hid (Y2.out.next b3)
    have X3 := Lib.hid (X2.out.next b3)
    have B3 := Lib.hid (Below.next B2.out (Nat.le_refl _) b3)
    clear o3 b3 Y2 X2 B2
    go_wp2_with fail
    refine (sameInts_any v2 v3 cv2 cv3 w3.heap.size w3.heap.size Z Z w3 Y3.out U3.out (by omega)).mono ?_
    rintro e w4 ⟨rfl, n4, rfl⟩
    have B4 := Lib.hid (below_drewN B3.out n4)
    have Y4 : Hid (Ints .i64 (w3.drewN n4) (w3.drewN n4).heap.size v2 Z) := Y3.out
    have X4 : Hid (Ints .i64 (w3.drewN n4) (w3.drewN n4).heap.size a1 xs) := X3.out
    clear Y3 X3 B3 U3
    generalize w3.drewN n4 = w4 at *
    by_cases hZ0 : Z.length = 0
    · have z4 : ((Z.length : Int) == 0) = true := by simp [hZ0]
      clear hZ0
      go_wp2_with fail
      refine (alive_any w4).mono ?_
      rintro e w8 ⟨rfl, b8⟩
      have B8 := Lib.hid (Below.next B4.out (Nat.le_refl _) b8)
      clear b8
      go_wp2
      go_ret
      exact ⟨rfl, B8.out⟩
    · have z4 : ((Z.length : Int) == 0) = false := by rw [beq_eq_false_iff_ne]; omega
      have hok : ptOk xs = true := btOr_pos (by rw [← HZ.out]; exact hZ0)
      have hZok := (btOr_ok hok).1
      rw [← HZ.out] at hZok
      have HL := Lib.hid (And.intro (ptOk_len hok) (ptOk_len hZok))
      have hx0 : 0 < xs.length := by have := HL.out; omega
      have hz0 : 0 < Z.length := by have := HL.out; omega
      have HF := Lib.hid (show ftOr Z = xs by rw [HZ.out]; exact ft_bt_list hok)
      clear hZ0 hok hZok hx0 hz0
      go_wp2_with fail
      have h5 := forwardTransform_any v2 cv2 Z w4 Y4.out
      rw [HF.out] at h5
      refine h5.mono ?_
      clear h5
      rintro e w5 ⟨v5, cv5, rfl, _, o5, b5⟩
      have U5 := Lib.hid (own_of_list o5).ints
      have X5 := Lib.hid (X4.out.next b5)
      have B5 := Lib.hid (Below.next B4.out (Nat.le_refl _) b5)
      clear o5 b5
      have z5 : decide (xs = xs) = true := by simp
      go_wp2_with fail
      refine (sameInts_any v5 a1 cv5 c1 w5.heap.size w5.heap.size xs xs w5 U5.out X5.out (by omega)).mono ?_
      rintro e w6 ⟨rfl, n6, rfl⟩
      go_wp2
      go_ret
      exact ⟨rfl, below_drewN B5.out n6⟩
  · go_enter Try.func5, Try.ntmps5
    go_wp2
    go_ret
    exact ⟨rfl, Below.refl _ _⟩
set_option maxHeartbeats 4000000 in
theorem walkForwardTransform (a : Option Addr) (c : Nat) (ds : List Int) (w : World) (hx : Ints .u8 w w.heap.size a ds) (hw : ∀ n ∈ ds, (Lit.int .u8 n).wf = true) (hc : ds.length ≤ c) (hcm : c ≤ maxLen) :
    Calls Try.prog 4 #[.slice a ds.length c] w fun e w' => e = .returned (.bool true) ∧ Below w.heap.size w w' := by
  have hb := isByte_of_wf hw
  clear hw
  by_cases hl : ds.length ≤ 1048576
  · go_enter Try.func4, Try.ntmps4
    go_wp2_with fail
    refine (drawForward_any a c ds w hx hb hc hcm).mono ?_
    rintro e w1 ⟨xs, a1, c1, rfl, ⟨lx, lc, lcm⟩, i1, bl⟩
    have X1 := Lib.hid i1.ints
    have B1 := Lib.hid bl
    clear hx hb hc hcm i1 bl
    obtain ⟨Z, hZ⟩ : ∃ Z, Z = ftOr xs := ⟨_, rfl⟩
    have HZ := Lib.hid hZ
    have hZl : Z.length ≤ 16 := by rw [hZ]; exact ftOr_length xs
    have z3 : decide (Z = Z) = true := by simp
    clear hZ
    go_wp2_with fail
    refine (forwardTransform_any a1 c1 xs w1 X1.out).mono ?_
    rw [← HZ.out]
    rintro e w2 ⟨v2, cv2, rfl, r2, o2, b2⟩
    have X2 := Lib.hid (X1.out.next b2)
    have Y2 := Lib.hid (own_of_list o2).ints
    have B2 := Lib.hid (Below.next B1.out (Nat.le_refl _) b2)
    clear o2 b2 X1 B1
    go_wp2_with fail
    refine (specForward_any a1 c1 xs w2 X2.out (by unfold maxLen; omega)).mono ?_
    rw [← HZ.out]
    rintro e w3 ⟨v3, cv3, rfl, _, o3, b3⟩
    have U3 := Lib.hid (own_of_list o3).ints
    have Y3 := Lib.hid (Y2.out.next b3)
    have X3 := Lib.hid (X2.out.next b3)
    have B3 := Lib.hid (Below.next B2.out (Nat.le_refl _) b3)
    clear o3 b3 Y2 X2 B2
    go_wp2_with fail
    refine (sameInts_any v2 v3 cv2 cv3 w3.heap.size w3.heap.size Z Z w3 Y3.out U3.out (by omega)).mono ?_
    rintro e w4 ⟨rfl, n4, rfl⟩
    have B4 := Lib.hid (below_drewN B3.out n4)
    have Y4 : Hid (Ints .i64 (w3.drewN n4) (w3.drewN n4).heap.size v2 Z) := Y3.out
    have X4 : Hid (Ints .i64 (w3.drewN n4) (w3.drewN n4).heap.size a1 xs) := X3.out
    clear Y3 X3 B3 U3
    generalize w3.drewN n4 = w4 at *
    by_cases hZ0 : Z.length = 0
    · have z4 : ((Z.length : Int) == 0) = true := by simp [hZ0]
      clear hZ0
      go_wp2_with fail
      refine (alive_any w4).mono ?_
      rintro e w8 ⟨rfl, b8⟩
      have B8 := Lib.hid (Below.next B4.out (Nat.le_refl _) b8)
      clear b8
      go_wp2
      go_ret
      exact ⟨rfl, B8.out⟩
    · have z4 : ((Z.length : Int) == 0) = false := by rw [beq_eq_false_iff_ne]; omega
      have hok : ptOk xs = true := ftOr_pos (by rw [← HZ.out]; exact hZ0)
      have hZok := (ftOr_ok hok).1
      rw [← HZ.out] at hZok
      have HL := Lib.hid (And.intro (ptOk_len hok) (ptOk_len hZok))
      have hx0 : 0 < xs.length := by have := HL.out; omega
      have hz0 : 0 < Z.length := by have := HL.out; omega
      have HF := Lib.hid (show btOr Z = xs by rw [HZ.out]; exact bt_ft_list hok)
      have HFirst := Lib.hid (show el Z 0 = sqS (el xs) 16 % 257 by rw [HZ.out]; exact ft_first_at hok)
      have HXi := Lib.hid (fun j => ptOk_in hok j)
      have HSum := Lib.hid (fun k (hk : k ≤ 16) => sum_bound hok hk)
      have HFl := Lib.hid (fun k (hk : k < 16) => (ft_flat_at (HXi.out 0) hk).2)
      have HFok := Lib.hid (ft_flat_at (HXi.out 0) (show 0 < 16 by omega)).1
      obtain ⟨bx, ox, rfl⟩ := ints_addr X4.out hx0
      obtain ⟨bz, oz, rfl⟩ := ints_addr Y4.out hz0
      have hmk := fun W => makeT W
      have B5 := Lib.hid (alloc_belowT w4 (.cells (madeCells #[.int .i64 0] 16) 3))
      have X5 := Lib.hid (X4.out.next B5.out)
      have Y5 := Lib.hid (Y4.out.next B5.out)
      have R5 := Lib.hid (made_row w4)
      have hc0 := ints_cell0 X5.out hx0
      have c50 := R5.out.cell (show 0 < 16 by omega)
      have f50 := R5.out.frozen 0
      have hfold := World.setCell_alloc_new (w := w4) (madeCells #[.int .i64 0] 16) 3 0 (.int .i64 (el xs 0))
      have U6 := Lib.hid (one_ints R5.out (el xs 0))
      have BS := Lib.hid ((Below.refl w4.heap.size (w4.alloc (.cells (madeCells #[.int .i64 0] 16) 3))).setCell (p := ⟨w4.heap.size, 0, none⟩) (Nat.le_refl _) (.int .i64 (el xs 0)))
      have B6 := Lib.hid (Below.next B4.out (Nat.le_refl _) (B5.out.trans BS.out))
      have X6 := Lib.hid (X4.out.next (B5.out.trans BS.out))
      have Y6 := Lib.hid (Y4.out.next (B5.out.trans BS.out))
      clear hZ0 hok hZok X4 Y4 B4 B5 X5 Y5 R5 BS
      rw [hfold] at U6 B6 X6 Y6
      clear hfold
      go_wp2_with fail
      clear hmk hc0 c50 f50
      generalize w4.alloc (.cells ((madeCells #[.int .i64 0] 16).setIfInBounds 0 (.int .i64 (el xs 0))) 3) = w6 at *
      have h7 := forwardTransform_any (some ⟨w4.heap.size, 0, none⟩) 16 (oneL (el xs 0)) w6 U6.out
      rw [show (oneL (el xs 0)).length = 16 from l16_length _] at h7
      obtain ⟨F, hF⟩ : ∃ F, F = ftOr (oneL (el xs 0)) := ⟨_, rfl⟩
      have HFL := Lib.hid (show F.length = 16 by rw [hF]; exact ptOk_len (ftOr_ok HFok.out).1)
      have HFe := Lib.hid (fun k (hk : k < 16) => show el F k = el xs 0 by rw [hF]; exact HFl.out k hk)
      rw [← hF] at h7
      clear hF HFl HFok
      refine h7.mono ?_
      clear h7
      rintro e w7 ⟨v7, cv7, rfl, _, o7, b7⟩
      have F7 := Lib.hid (own_of_list o7).ints
      have X7 := Lib.hid (X6.out.next b7)
      have Y7 := Lib.hid (Y6.out.next b7)
      have B7 := Lib.hid (Below.next B6.out (Nat.le_refl _) b7)
      obtain ⟨bf, of, rfl⟩ := ints_addr F7.out (by have := HFL.out; omega)
      clear o7 b7 X6 Y6 B6 U6
      go_wp2
      go_loopw [5, 8] (fun s i wr => ∃ k d : Nat, k ≤ 16 ∧ i = .int .i64 k ∧ s = .int .i64 (sqS (el xs) k) ∧ wr = w7.drewN d) (fun _ i _ => 16 - (intOf i).toNat)
      case atStart => exact ⟨0, 0, Nat.zero_le _, rfl, rfl, rfl⟩
      case round =>
        obtain ⟨k, d, hk, rfl, rfl, hwd⟩ := hrel
        have HWd := Lib.hid hwd
        have XW := Lib.hid (show Ints .i64 wr wr.heap.size (some ⟨bx, ox, none⟩) xs by rw [hwd]; exact X7.out)
        have FW := Lib.hid (show Ints .i64 wr wr.heap.size (some ⟨bf, of, none⟩) F by rw [hwd]; exact F7.out)
        clear hwd
        by_cases hlt : k < 16
        · have hkx : k < xs.length := by have := HL.out; omega
          have hkF : k < F.length := by have := HFL.out; omega
          have c1 := ints_cell XW.out hkx
          have c2 := ints_cell FW.out hkF
          have c3 := ints_cell0 XW.out hx0
          rw [HFe.out k hlt] at c2
          have HS := Lib.hid (show sqS (el xs) (k + 1) = sqS (el xs) k + el xs k from rfl)
          have hs := HSum.out k hk
          have hs2 := HSum.out (k + 1) hlt
          rw [HS.out] at hs2
          have hA := HXi.out k
          have r1 : IntKind.i64.wrap (sqS (el xs) k + el xs k) = sqS (el xs) k + el xs k := wrapT (by omega)
          have r1' : wrap64 (sqS (el xs) k + el xs k) = sqS (el xs) k + el xs k := wrapT' (by omega)
          generalize sqS (el xs) k = S at *
          generalize el xs k = A at *
          generalize el xs 0 = A0 at *
          have z5 : (A0 != A0) = false := by simp
          clear hs hs2 hA
          go_wp2
          go_quiet (fail)
          go_wp2
          go_roundw
          case rel => exact ⟨k + 1, _, by omega, by go_num, by rw [HS.out], by rw [HWd.out, World.drewN_drewN]⟩
          case measure => simp [intOf]; omega
        · obtain rfl : k = 16 := by omega
          have YW := Lib.hid (show Ints .i64 wr wr.heap.size (some ⟨bz, oz, none⟩) Z by rw [HWd.out]; exact Y7.out)
          have BW := Lib.hid (show Below w.heap.size w wr by rw [HWd.out]; exact below_drewN B7.out d)
          have hs := HSum.out 16 (Nat.le_refl _)
          clear X7 F7 Y7 B7 HWd FW
          have h8 := backwardTransform_any (some ⟨bz, oz, none⟩) cv2 Z wr YW.out
          rw [HF.out] at h8
          have H8 := Lib.hid h8
          clear h8
          go_wp2_with fail
          refine H8.out.mono ?_
          rintro e w8 ⟨v8, cv8, rfl, _, o8, b8⟩
          have V8 := Lib.hid (own_of_list o8).ints
          have X8 := Lib.hid (XW.out.next b8)
          have Y8 := Lib.hid (YW.out.next b8)
          have B8 := Lib.hid (Below.next BW.out (Nat.le_refl _) b8)
          have z8 : decide (xs = xs) = true := by simp
          clear o8 b8
          go_wp2_with fail
          refine (sameInts_any v8 (some ⟨bx, ox, none⟩) cv8 c1 w8.heap.size w8.heap.size xs xs w8 V8.out X8.out (by omega)).mono ?_
          rintro e w9 ⟨rfl, n9, rfl⟩
          have c9 := ints_cell0 (show Ints .i64 (w8.drewN n9) (w8.drewN n9).heap.size (some ⟨bz, oz, none⟩) Z from Y8.out) hz0
          have B9 := Lib.hid (below_drewN B8.out n9)
          rw [HFirst.out] at c9
          generalize sqS (el xs) 16 = S at *
          have r2 : S.tmod 257 = S % 257 := tmodT hs.1
          have HM := Lib.hid (show ∀ v : Int, (v == v) = true from fun v => by simp)
          clear hs
          generalize w8.drewN n9 = w9 at *
          go_wp2
          go_ret
          exact ⟨ret_bool (by simp), B9.out⟩
  · go_enter Try.func4, Try.ntmps4
    go_wp2
    go_ret
    exact ⟨rfl, Below.refl _ _⟩
set_option maxHeartbeats 2000000 in
theorem walkTransformTwice (a : Option Addr) (c : Nat) (ds : List Int) (w : World) (hx : Ints .u8 w w.heap.size a ds) (hw : ∀ n ∈ ds, (Lit.int .u8 n).wf = true) (hc : ds.length ≤ c) (hcm : c ≤ maxLen) :
    Calls Try.prog 10 #[.slice a ds.length c] w fun e w' => e = .returned (.bool true) ∧ Below w.heap.size w w' := by
  have hb := isByte_of_wf hw
  clear hw
  by_cases hl : ds.length ≤ 1048576
  · go_enter Try.func10, Try.ntmps10
    go_wp2_with fail
    refine (drawForward_any a c ds w hx hb hc hcm).mono ?_
    rintro e w1 ⟨xs, a1, c1, rfl, ⟨lx, lc, lcm⟩, i1, bl⟩
    have X1 := Lib.hid i1.ints
    have B1 := Lib.hid bl
    clear hx hb hc hcm i1 bl
    obtain ⟨Z, hZ⟩ : ∃ Z, Z = ftOr xs := ⟨_, rfl⟩
    have HZ := Lib.hid hZ
    have hZl : Z.length ≤ 16 := by rw [hZ]; exact ftOr_length xs
    have z3 : decide (Z = Z) = true := by simp
    clear hZ
    go_wp2_with fail
    refine (forwardTransform_any a1 c1 xs w1 X1.out).mono ?_
    rw [← HZ.out]
    rintro e w2 ⟨v2, cv2, rfl, r2, o2, b2⟩
    have X2 := Lib.hid (X1.out.next b2)
    have Y2 := Lib.hid (own_of_list o2).ints
    have B2 := Lib.hid (Below.next B1.out (Nat.le_refl _) b2)
    clear o2 b2 X1 B1
    go_wp2_with fail
    refine (specForward_any a1 c1 xs w2 X2.out (by unfold maxLen; omega)).mono ?_
    rw [← HZ.out]
    rintro e w3 ⟨v3, cv3, rfl, _, o3, b3⟩
    have U3 := Lib.hid (own_of_list o3).ints
    have Y3 := Lib.hid (Y2.out.next b3)
    have X3 := Lib.hid (X2.out.next b3)
    have B3 := Lib.hid (Below.next B2.out (Nat.le_refl _) b3)
    clear o3 b3 Y2 X2 B2
    go_wp2_with fail
    refine (sameInts_any v2 v3 cv2 cv3 w3.heap.size w3.heap.size Z Z w3 Y3.out U3.out (by omega)).mono ?_
    rintro e w4 ⟨rfl, n4, rfl⟩
    have B4 := Lib.hid (below_drewN B3.out n4)
    have Y4 : Hid (Ints .i64 (w3.drewN n4) (w3.drewN n4).heap.size v2 Z) := Y3.out
    have X4 : Hid (Ints .i64 (w3.drewN n4) (w3.drewN n4).heap.size a1 xs) := X3.out
    clear Y3 X3 B3 U3
    generalize w3.drewN n4 = w4 at *
    by_cases hZ0 : Z.length = 0
    · have z4 : ((Z.length : Int) == 0) = true := by simp [hZ0]
      clear hZ0
      go_wp2_with fail
      refine (alive_any w4).mono ?_
      rintro e w8 ⟨rfl, b8⟩
      have B8 := Lib.hid (Below.next B4.out (Nat.le_refl _) b8)
      clear b8
      go_wp2
      go_ret
      exact ⟨rfl, B8.out⟩
    · have z4 : ((Z.length : Int) == 0) = false := by rw [beq_eq_false_iff_ne]; omega
      have hok : ptOk xs = true := ftOr_pos (by rw [← HZ.out]; exact hZ0)
      have hZok := (ftOr_ok hok).1
      rw [← HZ.out] at hZok
      have HL := Lib.hid (And.intro (ptOk_len hok) (ptOk_len hZok))
      have hx0 : 0 < xs.length := by have := HL.out; omega
      have hz0 : 0 < Z.length := by have := HL.out; omega
      have HT := Lib.hid (fun k (hk : k < 16) => show el (ftOr Z) k = 16 * el xs ((16 - k) % 16) % 257 by rw [HZ.out]; exact ft_twice_at hok hk)
      have HXi := Lib.hid (fun j => ptOk_in hok j)
      obtain ⟨bx, ox, rfl⟩ := ints_addr X4.out hx0
      obtain ⟨Y, hY⟩ : ∃ Y, Y = ftOr Z := ⟨_, rfl⟩
      have HYL := Lib.hid (show Y.length = 16 by rw [hY]; exact ptOk_len (ftOr_ok hZok).1)
      rw [← hY] at HT
      clear hZ0 hok hZok
      go_wp2_with fail
      have h5 := forwardTransform_any v2 cv2 Z w4 Y4.out
      rw [← hY] at h5
      clear hY
      refine h5.mono ?_
      clear h5
      rintro e w5 ⟨v5, cv5, rfl, _, o5, b5⟩
      have U5 := Lib.hid (own_of_list o5).ints
      have X5 := Lib.hid (X4.out.next b5)
      have B5 := Lib.hid (Below.next B4.out (Nat.le_refl _) b5)
      obtain ⟨by', oy, rfl⟩ := ints_addr U5.out (by have := HYL.out; omega)
      clear o5 b5 X4 Y4 B4
      go_wp2
      go_loopw [6] (fun i wr => ∃ k d : Nat, k ≤ 16 ∧ i = .int .i64 k ∧ wr = w5.drewN d) (fun i _ => 16 - (intOf i).toNat)
      case atStart => exact ⟨0, 0, Nat.zero_le _, rfl, rfl⟩
      case round =>
        obtain ⟨k, d, hk, rfl, hwd⟩ := hrel
        have HWd := Lib.hid hwd
        have XW := Lib.hid (show Ints .i64 wr wr.heap.size (some ⟨bx, ox, none⟩) xs by rw [hwd]; exact X5.out)
        have UW := Lib.hid (show Ints .i64 wr wr.heap.size (some ⟨by', oy, none⟩) Y by rw [hwd]; exact U5.out)
        clear hwd
        by_cases hlt : k < 16
        · obtain ⟨m, hm⟩ : ∃ m, m = (16 - k) % 16 := ⟨_, rfl⟩
          have hmx : m < xs.length := by have := HL.out; omega
          have hkY : k < Y.length := by have := HYL.out; omega
          have c1 := ints_cell XW.out hmx
          have c2 := ints_cell UW.out hkY
          have hT := HT.out k hlt
          rw [← hm] at hT
          have hA := HXi.out m
          have t3 : ((16 : Int) - (k : Int)).tmod 16 = (m : Int) := by rw [Int.tmod_eq_emod_of_nonneg (by omega)]; omega
          generalize el xs m = A at *
          have r1 : IntKind.i64.wrap (16 * A) = 16 * A := wrapT (by omega)
          have r1' : wrap64 (16 * A) = 16 * A := wrapT' (by omega)
          have r2 : (16 * A).tmod 257 = el Y k := by rw [tmodT (by omega), hT]
          generalize el Y k = V at *
          have z5 : (V != V) = false := by simp
          have hmi : (m : Int) < (xs.length : Int) := by omega
          clear hA hm hT
          go_wp2
          go_quiet (fail)
          go_wp2
          go_roundw
          case rel => exact ⟨k + 1, _, by omega, by go_num, by rw [HWd.out, World.drewN_drewN]⟩
          case measure => simp [intOf]; omega
        · obtain rfl : k = 16 := by omega
          have BW := Lib.hid (show Below w.heap.size w wr by rw [HWd.out]; exact below_drewN B5.out d)
          go_wp2
          go_ret
          exact ⟨rfl, BW.out⟩
  · go_enter Try.func10, Try.ntmps10
    go_wp2
    go_ret
    exact ⟨rfl, Below.refl _ _⟩
end Go.Proofs.Ytkigjnjbjbnidaa
