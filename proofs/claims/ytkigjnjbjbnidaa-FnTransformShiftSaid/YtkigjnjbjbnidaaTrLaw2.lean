/-
  The laws of the transform of a list turned by one place, and of the sum of two lists, walked: they return true for every code, and write into nothing that was there. No condition.
-/
import Derived.Test.YtkigjnjbjbnidaaTrLaw1
import Derived.Test.YtkigjnjbjbnidaaTrTwo
namespace Go.Proofs.Ytkigjnjbjbnidaa
open Go.RowKit

set_option maxHeartbeats 4000000 in
theorem walkTransformShift (a : Option Addr) (c : Nat) (ds : List Int) (w : World) (hx : Ints .u8 w w.heap.size a ds) (hw : ∀ n ∈ ds, (Lit.int .u8 n).wf = true) (hc : ds.length ≤ c) (hcm : c ≤ maxLen) :
    Calls Try.prog 8 #[.slice a ds.length c] w fun e w' => e = .returned (.bool true) ∧ Below w.heap.size w w' := by
  have hb := isByte_of_wf hw
  clear hw
  by_cases hl : ds.length ≤ 1048576
  · go_enter Try.func8, Try.ntmps8
    go_wp2_with fail
    refine (drawForward_any a c ds w hx hb hc hcm).mono ?_
    rintro e w1 ⟨xs, a1, c1, rfl, ⟨lx, lc, lcm⟩, i1, bl⟩
    have X1 := Lib.hid i1.ints
    have B1 := Lib.hid bl
    clear hx hb hc hcm i1 bl
    obtain ⟨Z, hZ⟩ : ∃ Z, Z = ftOr xs := ⟨_, rfl⟩
    have HZ := Lib.hid hZ
    have hZl : Z.length ≤ 16 := by rw [hZ]; exact ftOr_length xs
    have z3 : decide (Z = Z) = true := by simp
    clear hZ
    go_wp2_with fail
    refine (forwardTransform_any a1 c1 xs w1 X1.out).mono ?_
    rw [← HZ.out]
    rintro e w2 ⟨v2, cv2, rfl, r2, o2, b2⟩
    have X2 := Lib.hid (X1.out.next b2)
    have Y2 := Lib.hid (own_of_list o2).ints
    have B2 := Lib.hid (Below.next B1.out (Nat.le_refl _) b2)
    clear o2 b2 X1 B1
    go_wp2_with fail
    refine (specForward_any a1 c1 xs w2 X2.out (by unfold maxLen; omega)).mono ?_
    rw [← HZ.out]
    rintro e w3 ⟨v3, cv3, rfl, _, o3, b3⟩
    have U3 := Lib.hid (own_of_list o3).ints
    have Y3 := Lib.hid (Y2.out.next b3)
    have X3 := Lib.hid (X2.out.next b3)
    have B3 := Lib.hid (Below.next B2.out (Nat.le_refl _) b3)
    clear o3 b3 Y2 X2 B2
    go_wp2_with fail
    refine (sameInts_any v2 v3 cv2 cv3 w3.heap.size w3.heap.size Z Z w3 Y3.out U3.out (by omega)).mono ?_
    rintro e w4 ⟨rfl, n4, rfl⟩
    have B4 := Lib.hid (below_drewN B3.out n4)
    have Y4 : Hid (Ints .i64 (w3.drewN n4) (w3.drewN n4).heap.size v2 Z) := Y3.out
    have X4 : Hid (Ints .i64 (w3.drewN n4) (w3.drewN n4).heap.size a1 xs) := X3.out
    clear Y3 X3 B3 U3
    generalize w3.drewN n4 = w4 at *
    by_cases hZ0 : Z.length = 0
    · have z4 : ((Z.length : Int) == 0) = true := by simp [hZ0]
      clear hZ0
      go_wp2_with fail
      refine (alive_any w4).mono ?_
      rintro e w8 ⟨rfl, b8⟩
      have B8 := Lib.hid (Below.next B4.out (Nat.le_refl _) b8)
      clear b8
      go_wp2
      go_ret
      exact ⟨rfl, B8.out⟩
    · have z4 : ((Z.length : Int) == 0) = false := by rw [beq_eq_false_iff_ne]; omega
      have hok : ptOk xs = true := ftOr_pos (by rw [← HZ.out]; exact hZ0)
      have hZok := (ftOr_ok hok).1
      rw [← HZ.out] at hZok
      have HL := Lib.hid (And.intro (ptOk_len hok) (ptOk_len hZok))
      have hx0 : 0 < xs.length := by have := HL.out; omega
      have hz0 : 0 < Z.length := by have := HL.out; omega
      obtain ⟨M, hM⟩ : ∃ M, M = el xs 15 :: xs.take 15 := ⟨_, rfl⟩
      have HS := Lib.hid (fun k (hk : k < 16) => show el (ftOr M) k = el Z k * tw k % 257 by rw [hM, HZ.out]; exact (ft_moved_at hok hk).2)
      have hMok : ptOk M = true := by rw [hM]; exact (ft_moved_at hok (show 0 < 16 by omega)).1
      have HMl := Lib.hid (ptOk_len hMok)
      have HM := Lib.hid hM
      obtain ⟨Y, hY⟩ : ∃ Y, Y = ftOr M := ⟨_, rfl⟩
      have HYL := Lib.hid (show Y.length = 16 by rw [hY]; exact ptOk_len (ftOr_ok hMok).1)
      have HF := Lib.hid (fun A C W hA => show Calls Try.prog 15 #[.slice A 16 C] W (ListPostC Y W) by
        have h := forwardTransform_any A C M W hA
        rw [HMl.out, ← hY] at h
        exact h)
      rw [← hY] at HS
      have HZi := Lib.hid (fun k => show 0 ≤ el Z k ∧ el Z k < 257 from ptOk_in hZok k)
      have HT := Lib.hid (fun k => show tw (k + 1) = tw k * 2 % 257 from (tw_one k).symm)
      have HTl := Lib.hid (show (xs.take 15).length = 15 by rw [List.length_take, HL.out.1]; rfl)
      have HR := Lib.hid (fun W => transformRoot_any W)
      obtain ⟨bx, ox, rfl⟩ := ints_addr X4.out hx0
      obtain ⟨bz, oz, rfl⟩ := ints_addr Y4.out hz0
      have hx15 : 15 < xs.length := by have := HL.out; omega
      have hx15i : (15 : Int) < (xs.length : Int) := by have := HL.out; omega
      have hc15i : (15 : Int) ≤ (c1 : Int) := by have := HL.out; omega
      have hcc0 : ¬ c1 = 0 := by have := HL.out; omega
      have c15 := ints_cell X4.out hx15
      have IX := Lib.hid (fun o : Obj => (X4.out.next (alloc_belowT w4 o)).take (m := 15))
      clear hZ0 hok hZok hM hY hMok X4
      go_wp2
      go_region_law (refine step_appendT (.tmp 29) (.tmp 31) w4.heap.size (some ⟨w4.heap.size, 0, none⟩) (some ⟨bx, ox, none⟩) 1 1 15 c1 _ [el xs 15] (xs.take 15) rfl rfl rfl rfl (grow_litT w4.drew w4.heap.size _ (Nat.le_refl _)) (IX.out _) HTl.out (by omega) (by simp) ?_; intro a5 cap5 w5 hg5 hb5; rw [show [el xs 15] ++ xs.take 15 = M from HM.out.symm] at hg5; have G5 := Lib.hid hg5.ints; have B5 : Hid (Below w4.heap.size w4.drew w5) := (Below.alloc (Below.refl w4.heap.size w4.drew) (Nat.le_refl _) _).trans hb5; clear hg5 hb5)
      all_goals
        have B6 := Lib.hid (Below.next B4.out (Nat.le_refl _) ((Below.refl w4.heap.size w4).drew.trans B5.out))
        have Y6 := Lib.hid (Y4.out.next ((Below.refl w4.heap.size w4).drew.trans B5.out))
        clear c15 B5 B4 Y4
        go_wp2_with fail
        refine (HF.out _ _ _ G5.out).mono ?_
        rintro e w7 ⟨v7, cv7, rfl, _, o7, b7⟩
        have U7 := Lib.hid (own_of_list o7).ints
        have Y7 := Lib.hid (Y6.out.next b7)
        have B7 := Lib.hid (Below.next B6.out (Nat.le_refl _) b7)
        obtain ⟨by', oy, rfl⟩ := ints_addr U7.out (by have := HYL.out; omega)
        clear o7 b7 G5 Y6 B6
        go_wp2_with (go_at_call 11; (with_reducible refine (HR.out _).mono ?_); rintro e w8 ⟨rfl, rfl⟩)
        go_loopw [8, 9] (fun p i wr => ∃ k d : Nat, k ≤ 16 ∧ i = .int .i64 k ∧ p = .int .i64 (tw k) ∧ wr = w7.drewN d) (fun _ i _ => 16 - (intOf i).toNat)
        case atStart => exact ⟨0, 0, Nat.zero_le _, rfl, rfl, rfl⟩
        case round =>
          obtain ⟨k, d, hk, rfl, rfl, hwd⟩ := hrel
          have HWd := Lib.hid hwd
          have UW := Lib.hid (show Ints .i64 wr wr.heap.size (some ⟨by', oy, none⟩) Y by rw [hwd]; exact U7.out)
          have YW := Lib.hid (show Ints .i64 wr wr.heap.size (some ⟨bz, oz, none⟩) Z by rw [hwd]; exact Y7.out)
          clear hwd
          by_cases hlt : k < 16
          · have hkZ : k < Z.length := by have := HL.out; omega
            have hkY : k < Y.length := by have := HYL.out; omega
            have c1' := ints_cell UW.out hkY
            have c2' := ints_cell YW.out hkZ
            have hS := HS.out k hlt
            have hTi := tw_in k
            have hZi := HZi.out k
            have HTk := Lib.hid (HT.out k)
            generalize el Y k = V at *
            generalize el Z k = A at *
            generalize tw k = P at *
            have z5 : (V != V) = false := by simp
            obtain ⟨q1, v1, hq1, r1, r1', r2, hv1, _⟩ := mm_nums hZi hTi
            rw [← hS] at hv1
            subst hv1
            rw [hq1] at r1 r1' r2
            obtain ⟨q2, v2', hq2, s1, s1', s2, hv2, _⟩ := mm_nums hTi (res_in (a := 2))
            rw [← hv2] at HTk
            rw [hq2] at s1 s1' s2
            have HTi := Lib.hid hTi
            clear hS hTi hZi hq1 hq2 hv2
            go_wp2
            go_quiet (fail)
            go_wp2
            go_roundw
            case rel => exact ⟨k + 1, _, by omega, by go_num, by rw [HTk.out, ← s2, tmodT (n := P * 2) (by have := HTi.out; omega)], by rw [HWd.out, World.drewN_drewN]⟩
            case measure => simp [intOf]; omega
          · obtain rfl : k = 16 := by omega
            have BW := Lib.hid (show Below w.heap.size w wr by rw [HWd.out]; exact below_drewN B7.out d)
            go_wp2
            go_ret
            exact ⟨rfl, BW.out⟩
  · go_enter Try.func8, Try.ntmps8
    go_wp2
    go_ret
    exact ⟨rfl, Below.refl _ _⟩
set_option maxHeartbeats 4000000 in
theorem walkTransformSum (a : Option Addr) (c : Nat) (ds : List Int) (w : World) (hx : Ints .u8 w w.heap.size a ds) (hw : ∀ n ∈ ds, (Lit.int .u8 n).wf = true) (hc : ds.length ≤ c) (hcm : c ≤ maxLen) :
    Calls Try.prog 9 #[.slice a ds.length c] w fun e w' => e = .returned (.bool true) ∧ Below w.heap.size w w' := by
  have hb := isByte_of_wf hw
  clear hw
  by_cases hl : ds.length ≤ 1048576
  · go_enter Try.func9, Try.ntmps9
    go_wp2_with fail
    refine (drawCyclic_any a c ds w hx hb hc hcm).mono ?_
    rintro e w1 ⟨xs, a1, c1, ys, a2, c2, rfl, ⟨lx, lc, lcm⟩, ⟨ly, ld, ldm⟩, i1, i2, bl⟩
    have X1 := Lib.hid i1.ints
    have J1 := Lib.hid i2.ints
    have B1 := Lib.hid bl
    have HC := Lib.hid (And.intro (And.intro lc lcm) (And.intro ld ldm))
    clear hx hb hc hcm i1 i2 bl lc lcm ld ldm
    obtain ⟨Z, hZ⟩ : ∃ Z, Z = ftOr xs := ⟨_, rfl⟩
    obtain ⟨T, hT⟩ : ∃ T, T = ftOr ys := ⟨_, rfl⟩
    have HZ := Lib.hid hZ
    have HT := Lib.hid hT
    have hZl : Z.length ≤ 16 := by rw [hZ]; exact ftOr_length xs
    have hTl : T.length ≤ 16 := by rw [hT]; exact ftOr_length ys
    have z3 : decide (Z = Z) = true := by simp
    clear hZ hT
    go_wp2_with fail
    have h2 := forwardTransform_any a1 c1 xs w1 X1.out
    rw [← HZ.out] at h2
    refine h2.mono ?_
    clear h2
    rintro e w2 ⟨v2, cv2, rfl, _, o2, b2⟩
    have X2 := Lib.hid (X1.out.next b2)
    have J2 := Lib.hid (J1.out.next b2)
    have Y2 := Lib.hid (own_of_list o2).ints
    have B2 := Lib.hid (Below.next B1.out (Nat.le_refl _) b2)
    clear o2 b2 X1 J1 B1
    go_wp2_with fail
    have h3 := forwardTransform_any a2 c2 ys w2 J2.out
    rw [← HT.out] at h3
    refine h3.mono ?_
    clear h3
    rintro e w3 ⟨v3, cv3, rfl, _, o3, b3⟩
    have U3 := Lib.hid (own_of_list o3).ints
    have X3 := Lib.hid (X2.out.next b3)
    have J3 := Lib.hid (J2.out.next b3)
    have Y3 := Lib.hid (Y2.out.next b3)
    have B3 := Lib.hid (Below.next B2.out (Nat.le_refl _) b3)
    clear o3 b3 X2 J2 Y2 B2
    go_wp2_with fail
    have h4 := specForward_any a1 c1 xs w3 X3.out (by unfold maxLen; omega)
    rw [← HZ.out] at h4
    refine h4.mono ?_
    clear h4
    rintro e w4 ⟨v4, cv4, rfl, _, o4, b4⟩
    have S4 := Lib.hid (own_of_list o4).ints
    have X4 := Lib.hid (X3.out.next b4)
    have J4 := Lib.hid (J3.out.next b4)
    have Y4 := Lib.hid (Y3.out.next b4)
    have U4 := Lib.hid (U3.out.next b4)
    have B4 := Lib.hid (Below.next B3.out (Nat.le_refl _) b4)
    clear o4 b4 X3 J3 Y3 U3 B3
    go_wp2_with fail
    refine (sameInts_any v2 v4 cv2 cv4 w4.heap.size w4.heap.size Z Z w4 Y4.out S4.out (by omega)).mono ?_
    rintro e w5 ⟨rfl, n5, rfl⟩
    have B5 := Lib.hid (below_drewN B4.out n5)
    have Y5 : Hid (Ints .i64 (w4.drewN n5) (w4.drewN n5).heap.size v2 Z) := Y4.out
    have U5 : Hid (Ints .i64 (w4.drewN n5) (w4.drewN n5).heap.size v3 T) := U4.out
    have X5 : Hid (Ints .i64 (w4.drewN n5) (w4.drewN n5).heap.size a1 xs) := X4.out
    have J5 : Hid (Ints .i64 (w4.drewN n5) (w4.drewN n5).heap.size a2 ys) := J4.out
    clear Y4 U4 X4 J4 S4 B4
    generalize w4.drewN n5 = w5 at *
    by_cases hZ0 : Z.length = 0
    · have z4 : ((Z.length : Int) == 0) = true := by simp [hZ0]
      clear hZ0
      go_wp2_with fail
      refine (alive_any w5).mono ?_
      rintro e w88 ⟨rfl, b88⟩
      have B88 := Lib.hid (Below.next B5.out (Nat.le_refl _) b88)
      clear b88
      go_wp2
      go_ret
      exact ⟨rfl, B88.out⟩
    · have z4 : ((Z.length : Int) == 0) = false := by rw [beq_eq_false_iff_ne]; omega
      by_cases hT0 : T.length = 0
      · have z5 : ((T.length : Int) == 0) = true := by simp [hT0]
        clear hT0
        go_wp2_with fail
        refine (alive_any w5).mono ?_
        rintro e w88 ⟨rfl, b88⟩
        have B88 := Lib.hid (Below.next B5.out (Nat.le_refl _) b88)
        clear b88
        go_wp2
        go_ret
        exact ⟨rfl, B88.out⟩
      · have z5 : ((T.length : Int) == 0) = false := by rw [beq_eq_false_iff_ne]; omega
        have hok : ptOk xs = true := ftOr_pos (by rw [← HZ.out]; exact hZ0)
        have hok' : ptOk ys = true := ftOr_pos (by rw [← HT.out]; exact hT0)
        have hZok := (ftOr_ok hok).1
        rw [← HZ.out] at hZok
        have hTok := (ftOr_ok hok').1
        rw [← HT.out] at hTok
        have HL := Lib.hid (And.intro (And.intro (ptOk_len hok) (ptOk_len hok')) (And.intro (ptOk_len hZok) (ptOk_len hTok)))
        have HSum := Lib.hid (show ftOr (prL (fun k => (el xs k + el ys k) % 257) 16) = prL (fun k => (el Z k + el T k) % 257) 16 by rw [prL_done, prL_done, HZ.out, HT.out]; exact ft_sum_list hok hok')
        have HIn := Lib.hid (fun k => And.intro (And.intro (ptOk_in hok k) (ptOk_in hok' k)) (And.intro (ptOk_in hZok k) (ptOk_in hTok k)))
        have HSn := Lib.hid (fun k => And.intro (prL_snoc (fun k => (el xs k + el ys k) % 257) k) (prL_snoc (fun k => (el Z k + el T k) % 257) k))
        obtain ⟨F, hF⟩ : ∃ F, F = prL fun k => (el xs k + el ys k) % 257 := ⟨_, rfl⟩
        obtain ⟨G, hG⟩ : ∃ G, G = prL fun k => (el Z k + el T k) % 257 := ⟨_, rfl⟩
        rw [← hF, ← hG] at HSum HSn
        have HN0 := Lib.hid (show [] = F 0 ∧ [] = G 0 by rw [hF, hG]; exact ⟨rfl, rfl⟩)
        have HFL := Lib.hid (show (F 16).length = 16 ∧ (G 16).length = 16 by rw [hF, hG]; exact ⟨l16_length _, l16_length _⟩)
        obtain ⟨bx, ox, rfl⟩ := ints_addr X5.out (by have := HL.out; omega)
        obtain ⟨bv, ov, rfl⟩ := ints_addr J5.out (by have := HL.out; omega)
        obtain ⟨bz, oz, rfl⟩ := ints_addr Y5.out (by omega)
        obtain ⟨bt, ot, rfl⟩ := ints_addr U5.out (by omega)
        clear hok hok' hZok hTok hF hG hZ0 hT0 HZ HT
        go_wp2
        have T0 := Lib.hid (TwoT.start w5)
        rw [show TwoT w5 ((w5.alloc (.cells #[] 3)).alloc (.cells #[] 3)) w5.heap.size (w5.heap.size + 1) 0 0 0 [] [] 0 = TwoT w5 ((w5.alloc (.cells #[] 3)).alloc (.cells #[] 3)) w5.heap.size (w5.heap.size + 1) 0 0 0 (F 0) (G 0) 0 by rw [← HN0.out.1, ← HN0.out.2]] at T0
        go_loopw [7, 8, 9] (fun R U i wr => ∃ k tb nt sb cs : Nat, k ≤ 16 ∧ i = .int .i64 k ∧ R = .slice (some ⟨tb, 0, none⟩) k nt ∧ U = .slice (some ⟨sb, 0, none⟩) k cs ∧ TwoT w5 wr tb sb k nt cs (F k) (G k) k) (fun _ _ i _ => 16 - (intOf i).toNat)
        case atStart => exact ⟨0, _, _, _, _, by omega, rfl, rfl, rfl, T0.out⟩
        case round =>
          obtain ⟨k, tb, nt, sb, cs, hk, rfl, rfl, rfl, hs⟩ := hrel
          have T4 := Lib.hid hs
          clear T0 hs
          by_cases hlt : k < 16
          · have hkx : k < xs.length := by have := HL.out; omega
            have hky : k < ys.length := by have := HL.out; omega
            have hkZ : k < Z.length := by have := HL.out; omega
            have hkT : k < T.length := by have := HL.out; omega
            have cX := ints_cell (X5.out.next T4.out.2.2.2) hkx
            have cV := ints_cell (J5.out.next T4.out.2.2.2) hky
            have hIn := HIn.out k
            have HSk := Lib.hid (HSn.out k)
            have hbA : 0 ≤ el xs k + el ys k ∧ el xs k + el ys k ≤ 600 := by omega
            have hbB : 0 ≤ el Z k + el T k ∧ el Z k + el T k ≤ 600 := by omega
            have hbA' : -1000000000000 ≤ el xs k + el ys k ∧ el xs k + el ys k ≤ 1000000000000 := by omega
            have hbB' : -1000000000000 ≤ el Z k + el T k ∧ el Z k + el T k ≤ 1000000000000 := by omega
            have hsz : w5.heap.size ≤ wr.heap.size := T4.out.2.2.2.size
            have hsz' : w5.heap.size ≤ wr.heap.size + 1 := Nat.le_succ_of_le hsz
            have hkb : k < 1099511627776 := Nat.lt_of_lt_of_le hlt (by decide)
            have r1 : IntKind.i64.wrap (el xs k + el ys k) = el xs k + el ys k := wrapT hbA'
            have r1' : wrap64 (el xs k + el ys k) = el xs k + el ys k := wrapT' hbA'
            have r2 : (el xs k + el ys k).tmod 257 = (el xs k + el ys k) % 257 := tmodT hbA.1
            have s1 : IntKind.i64.wrap (el Z k + el T k) = el Z k + el T k := wrapT hbB'
            have s1' : wrap64 (el Z k + el T k) = el Z k + el T k := wrapT' hbB'
            have s2 : (el Z k + el T k).tmod 257 = (el Z k + el T k) % 257 := tmodT hbB.1
            have CZ := Lib.hid (fun W (hb : Below w5.heap.size w5 W) => And.intro (ints_cell (Y5.out.next hb) hkZ) (ints_cell (U5.out.next hb) hkT))
            obtain ⟨v1, hv1⟩ : ∃ v, v = (el xs k + el ys k) % 257 := ⟨_, rfl⟩
            obtain ⟨v2, hv2⟩ : ∃ v, v = (el Z k + el T k) % 257 := ⟨_, rfl⟩
            rw [← hv1] at r2
            rw [← hv2] at s2
            have HSm := Lib.hid (show F (k + 1) = F k ++ [v1] ∧ G (k + 1) = G k ++ [v2] by rw [hv1, hv2]; exact HSk.out)
            clear HSk
            clear hv1 hv2 hIn
            generalize el xs k = A1 at *
            generalize el ys k = A2 at *
            generalize el Z k = A3 at *
            generalize el T k = A4 at *
            clear hbA hbB hbA' hbB'
            go_wp2
            go_region_law (refine step_append_twoT (.tmp 42) (.tmp 53) w5.heap.size tb k nt (F k) ⟨wr.heap.size, 0, none⟩ v1 rfl rfl rfl rfl (Grow.alloc (w := wr.drew) T4.out.1 _) (by simp) hkb (by simpa using hsz') ?_; intro tb5 nt5 w6 hb5 hg5 hn5; rw [← HSm.out.1] at hg5; have T5 := Lib.hid ((TwoT.alloc (W := wr.drew) T4.out.drew _).first hb5 hg5 hn5); clear hb5 hg5 hn5)
            all_goals
              obtain ⟨cZ, cT⟩ := CZ.out _ T5.out.2.2.2
              have hsz5 : w5.heap.size ≤ w6.heap.size + 1 := Nat.le_succ_of_le T5.out.2.2.2.size
              clear cX cV r1 r1' r2
              go_wp2
              go_region_law (refine step_append_twoT (.tmp 55) (.tmp 66) w5.heap.size sb k cs (G k) ⟨w6.heap.size, 0, none⟩ v2 rfl rfl rfl rfl (Grow.alloc (w := w6.drew) T5.out.2.1 _) (by simp) hkb (by simpa using hsz5) ?_; intro sb7 cs7 w7 hb7 hg7 hn7; rw [← HSm.out.2] at hg7; have T7 := Lib.hid ((TwoT.alloc (W := w6.drew) T5.out.drew _).second hb7 hg7 hn7); clear hb7 hg7 hn7)
              all_goals
                go_wp2
                go_roundw
                case rel => exact ⟨k + 1, tb5, nt5, sb7, cs7, by omega, by go_num, rfl, rfl, T7.out⟩
                case measure => simp [intOf]; omega
          · obtain rfl : k = 16 := by omega
            have BW := Lib.hid (Below.next B5.out (Nat.le_refl _) T4.out.2.2.2)
            have h6 := forwardTransform_any (some ⟨tb, 0, none⟩) nt (F 16) wr T4.out.1.ints
            rw [HSum.out, HFL.out.1] at h6
            have H6 := Lib.hid h6
            have U6 := Lib.hid T4.out.2.1.ints
            have z6 : decide (G 16 = G 16) = true := by simp
            clear h6 T4 X5 J5 Y5 U5 hk hlt
            go_wp2_with fail
            refine H6.out.mono ?_
            rintro e w6 ⟨v6, cv6, rfl, _, o6, b6⟩
            have I6 := Lib.hid (own_of_list o6).ints
            have U7 := Lib.hid (U6.out.next b6)
            have B6 := Lib.hid (Below.next BW.out (Nat.le_refl _) b6)
            clear o6 b6
            have h7 := sameInts_any v6 (some ⟨sb, 0, none⟩) cv6 cs w6.heap.size w6.heap.size (G 16) (G 16) w6 I6.out U7.out (by rw [HFL.out.2]; omega)
            rw [HFL.out.2] at h7 ⊢
            go_wp2_with fail
            refine h7.mono ?_
            rintro e w8 ⟨rfl, n8, rfl⟩
            go_wp2
            go_ret
            exact ⟨rfl, below_drewN B6.out n8⟩
  · go_enter Try.func9, Try.ntmps9
    go_wp2
    go_ret
    exact ⟨rfl, Below.refl _ _⟩
end Go.Proofs.Ytkigjnjbjbnidaa
