/-
  The law of SpreadBits, walked: it returns true for every code, and writes into nothing that was there. No condition.
-/
import Derived.Test.YtnnknfpkbhcghaaWsDraw2
import Derived.Test.YtnnknfpkbhcghaaWsLaw2
namespace Go.Proofs.Ytnnknfpkbhcghaa
open Go.RowKit

theorem sprOr_pos {xs : List Int} {k : Int} (h : (sprOr xs k).length ≠ 0) : bitsOk xs = true ∧ xs.length ≤ 32 ∧ ∃ K : Nat, K < 8 ∧ k = (K : Int) := by
  unfold sprOr at h
  split at h
  · next h2 => exact ⟨h2.1, h2.2.1, k.toNat, by omega, by omega⟩
  · exact absurd rfl h
/-- The list turned round: its first m numbers. -/
def rvP (xs : List Int) (m : Nat) : List Int := (List.range m).map fun t => el xs (xs.length - 1 - t)
theorem rvP_length (xs : List Int) (m : Nat) : (rvP xs m).length = m := by simp [rvP]
theorem rvP_ok {xs : List Int} (h : bitsOk xs = true) : bitsOk (rvP xs xs.length) = true := by
  have hl : xs.length ≤ 1024 := by
    simp only [bitsOk, Bool.and_eq_true, decide_eq_true_eq] at h
    exact h.1
  refine bitsW_ok (fun y hy => ?_) (by rw [rvP_length]; exact hl)
  simp only [rvP, List.mem_map, List.mem_range] at hy
  obtain ⟨t, ht, rfl⟩ := hy
  rcases bit_cases h (k := xs.length - 1 - t) (by omega) with e | e <;> rw [e] <;> rfl
theorem spread_facts {xs os : List Int} {K J : Nat} (hK : K < 8) (hJ : J < 8) (hne : K ≠ J) (hb : bitsOk xs = true) (hbO : bitsOk os = true) (hl : os.length = xs.length) (h32 : xs.length ≤ 32) :
    dbOr (spr xs K) (K : Int) = xs ∧ adOr (spr xs K) (spr os J) = adL (spr xs K) (spr os J) ∧ dbOr (adL (spr xs K) (spr os J)) (K : Int) = xs ∧ dbOr (adL (spr xs K) (spr os J)) (J : Int) = os ∧ dsOr (spr xs K) (J : Int) = List.replicate xs.length 0 := by
  have c1 := chOk_spr hb K
  have c2 := chOk_spr hbO J
  have l1 := spr_length xs K
  have l2 := spr_length os J
  have d1 : ∀ j : Nat, j < 8 → dsOk (spr xs K) (j : Int) := fun j hj => ⟨by rw [l1]; omega, by rw [l1]; omega, by omega, by omega, chOk_more (by decide) c1⟩
  have d2 : ∀ j : Nat, j < 8 → dsOk (adL (spr xs K) (spr os J)) (j : Int) := fun j hj => ⟨by rw [adL_length, l1]; omega, by rw [adL_length, l1]; omega, by omega, by omega, chOk_good fun i hi => by
    rw [adL_length] at hi
    rw [adL_el hi]
    have := chOk_in (by decide) c1 i
    have := chOk_in (by decide) c2 i
    omega⟩
  refine ⟨db_of hb (d1 K hK) l1 fun i hi => ?_, adOr_yes (by rw [l1, l2, hl]) (by rw [l1]; omega) (chOk_more (by decide) c1) (chOk_more (by decide) c2), db_of hb (d2 K hK) (by rw [adL_length, l1]) fun i hi => (ds_both hK hJ hne hl hi).1, db_of hbO (d2 J hJ) (by rw [adL_length, l1, hl]) fun i hi => (ds_both hK hJ hne hl (by omega)).2, ds_zero_list hK hJ hne (d1 J hJ)⟩
  rw [ds_spr hK hK hi, if_pos rfl]
/-- The lists of the law. -/
def SpQ (w W : World) (v2 : Option Addr) (Z : List Int) (a1 : Option Addr) (xs : List Int) (vB : Option Addr) (Bo : List Int) (vO : Option Addr) (os : List Int) : Prop :=
  Ints .i64 W W.heap.size v2 Z ∧ Ints .i64 W W.heap.size a1 xs ∧ Ints .i64 W W.heap.size vB Bo ∧ Ints .i64 W W.heap.size vO os ∧ Below w.heap.size w W
theorem SpQ.next {w W W' : World} {v2 a1 vB vO : Option Addr} {Z xs Bo os : List Int} (h : SpQ w W v2 Z a1 xs vB Bo vO os) (hb : Below W.heap.size W W') : SpQ w W' v2 Z a1 xs vB Bo vO os :=
  ⟨h.1.next hb, h.2.1.next hb, h.2.2.1.next hb, h.2.2.2.1.next hb, Below.next h.2.2.2.2 (Nat.le_refl _) hb⟩
theorem SpQ.drewN {w W : World} {v2 a1 vB vO : Option Addr} {Z xs Bo os : List Int} (h : SpQ w W v2 Z a1 xs vB Bo vO os) (n : Nat) : SpQ w (W.drewN n) v2 Z a1 xs vB Bo vO os :=
  ⟨h.1, h.2.1, h.2.2.1, h.2.2.2.1, below_drewN h.2.2.2.2 n⟩
theorem zeros_intsW (w : World) (n : Nat) : Ints .i64 (w.alloc (.cells (madeCells #[.int .i64 0] n) 3)) (w.alloc (.cells (madeCells #[.int .i64 0] n) 3)).heap.size (some ⟨w.heap.size, 0, none⟩) (List.replicate n 0) := by
  have h := (rowX_made w (fun _ => 0) n).ints
  rwa [mkX_start] at h
set_option maxHeartbeats 4000000 in
theorem walkSpreadBits (a : Option Addr) (c : Nat) (ds : List Int) (w : World) (hx : Ints .u8 w w.heap.size a ds) (hw : ∀ n ∈ ds, (Lit.int .u8 n).wf = true) (hc : ds.length ≤ c) (hcm : c ≤ maxLen) :
    Calls Try.prog 4 #[.slice a ds.length c] w fun e w' => e = .returned (.bool true) ∧ Below w.heap.size w w' := by
  have hb := isByte_of_wf hw
  clear hw
  by_cases hl : ds.length ≤ 1048576
  · go_enter Try.func4, Try.ntmps4
    go_wp2_with fail
    refine (drawSpreadBits_any a c ds w hx hb hc hcm).mono ?_
    rintro e w1 ⟨xs, a1, c1, k, rfl, hk, hin, ⟨lx, i1⟩, b1⟩
    have X1 := Lib.hid i1
    have B1 := Lib.hid b1
    have hlx : xs.length ≤ 33 := lx.1
    clear hx hb hc hcm i1 b1 hin lx
    obtain ⟨Z, hZ⟩ : ∃ Z, Z = sprOr xs k := ⟨_, rfl⟩
    have HZ := Lib.hid hZ
    have hZl : Z.length ≤ 256 := by rw [hZ]; exact sprOr_length xs k
    have z3 : decide (Z = Z) = true := by simp
    clear hZ
    go_wp2_with fail
    refine (spreadBits_any a1 c1 xs k w1 X1.out).mono ?_
    rw [← HZ.out]
    rintro e w2 ⟨v2, cv2, rfl, r2, o2, b2⟩
    have Y2 := Lib.hid (own_of_list o2).ints
    have X2 := Lib.hid (X1.out.next b2)
    have B2 := Lib.hid (Below.next B1.out (Nat.le_refl _) b2)
    have HC2 := Lib.hid r2.1
    clear o2 b2 X1 B1 r2
    go_wp2_with fail
    refine ((specSpreadBits_new a1 c1 xs k w2 X2.out (by unfold maxLen; omega)).mono fun _ _ h => h.post).mono ?_
    rw [← HZ.out]
    rintro e w3 ⟨v3, cv3, rfl, _, o3, b3⟩
    have U3 := Lib.hid (own_of_list o3).ints
    have Y3 := Lib.hid (Y2.out.next b3)
    have X3 := Lib.hid (X2.out.next b3)
    have B3 := Lib.hid (Below.next B2.out (Nat.le_refl _) b3)
    clear o3 b3 X2 Y2 B2
    go_wp2_with fail
    refine (sameInts_any v2 v3 cv2 cv3 w3.heap.size w3.heap.size Z Z w3 Y3.out U3.out (by omega)).mono ?_
    rintro e w4 ⟨rfl, n4, rfl⟩
    have B4 := Lib.hid (below_drewN B3.out n4)
    have Y4 : Hid (Ints .i64 (w3.drewN n4) (w3.drewN n4).heap.size v2 Z) := Y3.out
    have X4 : Hid (Ints .i64 (w3.drewN n4) (w3.drewN n4).heap.size a1 xs) := X3.out
    clear Y3 X3 B3 U3
    generalize w3.drewN n4 = w4 at *
    by_cases hZ0 : Z.length = 0
    · have z4 : ((Z.length : Int) == 0) = true := by simp [hZ0]
      clear hZ0
      go_wp2_with fail
      refine (alive_any w4).mono ?_
      rintro e w88 ⟨rfl, b88⟩
      have B88 := Lib.hid (Below.next B4.out (Nat.le_refl _) b88)
      clear b88
      go_wp2
      go_ret
      exact ⟨rfl, B88.out⟩
    · have z4 : ((Z.length : Int) == 0) = false := by rw [beq_eq_false_iff_ne]; omega
      obtain ⟨hbx, h32, K, hK, rfl⟩ := sprOr_pos (by rw [← HZ.out]; exact hZ0)
      have hZs : Z = spr xs K := by rw [HZ.out]; exact sprOr_yes hbx h32 hK
      obtain ⟨J, hJ⟩ : ∃ J, J = (K + 3) % 8 := ⟨_, rfl⟩
      have hJ8 : J < 8 := by omega
      have hKJ : K ≠ J := by omega
      have hbo := rvP_ok hbx
      have hlo := rvP_length xs xs.length
      have hPs := sprOr_yes hbo (by rw [hlo]; exact h32) hJ8
      obtain ⟨f1, f2, f3, f4, f5⟩ := spread_facts hK hJ8 hKJ hbx hbo hlo h32
      rw [← hZs] at f1 f2 f3 f4 f5
      obtain ⟨Bo, hBo⟩ : ∃ Bo, Bo = adL Z (spr (rvP xs xs.length) J) := ⟨_, rfl⟩
      rw [← hBo] at f2 f3 f4
      have hBl : Bo.length = Z.length := by rw [hBo, adL_length]
      have HOl := Lib.hid hlo
      have HBl := Lib.hid hBl
      have HD1 := Lib.hid (fun W v cc (hx : Ints .i64 W W.heap.size v Z) hc => show Calls Try.prog 23 #[.slice v Z.length cc, .int .i64 (K : Int)] W (ListPostC xs W) by have h := despreadBits_any v cc Z (K : Int) W hx hc; rwa [f1] at h)
      have HD2 := Lib.hid (fun W v cc (hx : Ints .i64 W W.heap.size v Bo) hc => show Calls Try.prog 23 #[.slice v Bo.length cc, .int .i64 (K : Int)] W (ListPostC xs W) by have h := despreadBits_any v cc Bo (K : Int) W hx hc; rwa [f3] at h)
      have HD3 := Lib.hid (fun W v cc (hx : Ints .i64 W W.heap.size v Bo) hc => show Calls Try.prog 23 #[.slice v Bo.length cc, .int .i64 (J : Int)] W (ListPostC (rvP xs xs.length) W) by have h := despreadBits_any v cc Bo (J : Int) W hx hc; rwa [f4] at h)
      have HD4 := Lib.hid (fun W v cc (hx : Ints .i64 W W.heap.size v Z) hc => show Calls Try.prog 24 #[.slice v Z.length cc, .int .i64 (J : Int)] W (ListPostC (List.replicate xs.length 0) W) by have h := despreadSums_any v cc Z (J : Int) W hx hc; rwa [f5] at h)
      have HSp := Lib.hid (fun W v cc (hx : Ints .i64 W W.heap.size v (rvP xs xs.length)) => show Calls Try.prog 20 #[.slice v (rvP xs xs.length).length cc, .int .i64 (J : Int)] W (ListPostC (spr (rvP xs xs.length) J) W) by have h := spreadBits_any v cc (rvP xs xs.length) (J : Int) W hx; rwa [hPs] at h)
      have HAd := Lib.hid (fun W v v' cc cc' (hx : Ints .i64 W W.heap.size v Z) (hy : Ints .i64 W W.heap.size v' (spr (rvP xs xs.length) J)) => show Calls Try.prog 22 #[.slice v Z.length cc, .slice v' (spr (rvP xs xs.length) J).length cc'] W (ListPostC Bo W) by have h := addChips_any v v' cc cc' Z (spr (rvP xs xs.length) J) W hx hy; rwa [f2] at h)
      rw [hlo] at HSp
      rw [hBl] at HD2 HD3
      have HRn := Lib.hid (fun m => show rvP xs (m + 1) = rvP xs m ++ [el xs (xs.length - 1 - m)] from map_one (fun t => el xs (xs.length - 1 - t)) m)
      have et : ((K : Int) + 3).tmod 8 = (J : Int) := by rw [Int.tmod_eq_emod_of_nonneg (by omega)]; omega
      have hA4 := Lib.hid (alloc_belowX w4 (.cells #[] 3))
      generalize spr (rvP xs xs.length) J = P at *
      have hK8 : K ≤ 7 := by omega
      clear hZs hZ0 HZ z3 f1 f2 f3 f4 f5 hBo hPs hbo hlo hBl hbx hJ hKJ hk hK
      go_wp2
      clear et
      go_loopw [7, 8] (fun s i wr => ∃ (r m : Nat) (v : Option Addr) (cap : Nat), r + m = xs.length ∧ i = .int .i64 ((r : Int) - 1) ∧ s = .slice v m cap ∧ Grow .i64 3 wr w4.heap.size v m cap (rvP xs m) ∧ Below w4.heap.size w4 wr) (fun _ i _ => (intOf i + 1).toNat)
      case atStart => exact ⟨xs.length, 0, _, _, rfl, rfl, rfl, Grow.lit0 _ _ _ _ (Nat.le_refl _), hA4.out⟩
      case round =>
        obtain ⟨r, m, v, cap, hrm, rfl, rfl, hgr, hbel⟩ := hrel
        have HG := Lib.hid hgr
        have HB := Lib.hid hbel
        have hsz : w4.heap.size ≤ wr.heap.size := hbel.size
        clear hgr hbel
        by_cases hr0 : 0 < r
        · obtain ⟨p, hp⟩ : ∃ p, r = p + 1 := ⟨r - 1, by omega⟩
          have hpi : (r : Int) - 1 = (p : Int) := by omega
          have hpx : p < xs.length := by omega
          obtain ⟨b, off, rfl, _, hc1⟩ := (X4.out.next HB.out).at_ hpx
          have HNm := Lib.hid (HRn.out m)
          have hpe : xs.length - 1 - m = p := by omega
          rw [hpe] at HNm
          have HRM := Lib.hid (show p + (m + 1) = xs.length by omega)
          have hm2 : m ≤ 33 := by omega
          rw [hpi]
          clear hpi hp hpe hrm hr0
          generalize el xs p = x at *
          generalize rvP xs m = zs at *
          go_wp2_with (at_builtin; refine wpList_append1 (.tmp 42) (.tmp 47) w4.heap.size v m cap zs ⟨wr.heap.size, 0, none⟩ x rfl rfl rfl rfl (HG.out.alloc _) (by simp) (by omega) (by simp; omega) ?_; intro a3 cap3 w3' hg3 hb3; have HG3 := Lib.hid hg3; have HB3 := Lib.hid ((HB.out.alloc hsz _).trans hb3); clear hg3 hb3)
          go_roundw
          case rel => exact ⟨p, m + 1, a3, cap3, HRM.out, rfl, rfl, by rw [HNm.out]; exact HG3.out, HB3.out⟩
          case measure => simp [intOf]
        · obtain rfl : r = 0 := by omega
          obtain rfl : m = xs.length := by omega
          have hi0 : ((0 : Nat) : Int) - 1 = -1 := by omega
          rw [hi0]
          have XW := Lib.hid (X4.out.next HB.out)
          have ZW := Lib.hid (Y4.out.next HB.out)
          have BW := Lib.hid (B4.out.trans (HB.out.mono B4.out.size))
          have OW := Lib.hid HG.out.ints
          generalize rvP xs xs.length = os at *
          clear hi0 hr0 hrm X4 Y4 B4 HB HG hA4 HRn
          go_wp2_with fail
          refine (HSp.out wr _ _ OW.out).mono ?_
          rintro e w6 ⟨v6, cv6, rfl, _, o6, b6⟩
          have P6 := Lib.hid (own_of_list o6).ints
          have X6 := Lib.hid (XW.out.next b6)
          have Z6 := Lib.hid (ZW.out.next b6)
          have O6 := Lib.hid (OW.out.next b6)
          have B6 := Lib.hid (Below.next BW.out (Nat.le_refl _) b6)
          clear o6 b6 XW ZW OW BW HSp
          go_wp2_with fail
          refine (HAd.out w6 _ _ _ _ Z6.out P6.out).mono ?_
          rintro e w7 ⟨vB, cB, rfl, rB, o7, b7⟩
          have S7 : Hid (SpQ w w7 v2 Z a1 xs vB Bo v os) := Lib.hid ⟨Z6.out.next b7, X6.out.next b7, (own_of_list o7).ints, O6.out.next b7, Below.next B6.out (Nat.le_refl _) b7⟩
          have HCB := Lib.hid (show Z.length ≤ cB by rw [← HBl.out]; exact rB.1)
          rw [HBl.out]
          clear o7 b7 rB P6 X6 Z6 O6 B6 HAd
          have hmk := fun W => makeX xs.length (by omega) W
          have hO33 : os.length ≤ 33 := by rw [HOl.out]; omega
          have e1 : decide (xs = xs) = true := by simp
          have e2 : decide (os = os) = true := by simp
          have e3 : decide (List.replicate xs.length (0 : Int) = List.replicate xs.length (0 : Int)) = true := by simp
          go_wp2
          refine wp_region_any (by kernel_rfl) ?_
          change wpAny _ _ _ _ _ _ _ (World.drew _)
          have S8 : Hid (SpQ w w7.drew v2 Z a1 xs vB Bo v os) := Lib.hid (S7.out.drewN 1)
          generalize w7.drew = w8 at *
          refine wpAny_take (i := 0) (v := ?v0) rfl (by kernel_rfl) (by kernel_rfl) (by kernel_rfl) (fun _ _ _ h => h) (Or.inl ⟨by kernel_rfl, ?h0⟩) ?_
          case h0 => intro w; go_simp; try with_reducible rfl
          go_simp
          refine wpAny_take (i := 1) (v := ?v1) rfl (by kernel_rfl) (by kernel_rfl) (by kernel_rfl) (fun _ _ _ h => h) (Or.inl ⟨by kernel_rfl, ?h1⟩) ?_
          case h1 => intro w; go_simp; try with_reducible rfl
          go_simp
          refine wpAny_take (i := 3) (v := ?v3) rfl (by kernel_rfl) (by kernel_rfl) (by kernel_rfl) (fun _ _ _ h => h) (Or.inl ⟨by kernel_rfl, ?h3⟩) ?_
          case h3 => intro w; go_simp; try with_reducible rfl
          go_simp
          refine wpAny_ready (rs := [2]) (by kernel_rfl) (by simp) (AllReady.cons rfl (fun K hK => ?_) AllReady.nil)
          go_simp
          refine (HD1.out w8 _ _ S8.out.1 HC2.out).mono ?_
          rintro e w9 ⟨u9, cu9, rfl, _, ow9, bw9⟩
          have U9 := Lib.hid (own_of_list ow9).ints
          have S9 := Lib.hid (S8.out.next bw9)
          clear ow9 bw9
          go_simp
          refine hK _ _ ?_
          clear hK K
          refine wpAny_ready (rs := [4]) (by kernel_rfl) (by simp) (AllReady.cons rfl (fun K hK => ?_) AllReady.nil)
          go_simp
          have hsm := sameInts_any u9 a1 cu9 c1 w9.heap.size w9.heap.size xs xs w9 U9.out S9.out.2.1 (by omega)
          refine hsm.mono ?_
          clear hsm
          rintro e wq ⟨rfl, nq, rfl⟩
          have S10 := Lib.hid (S9.out.drewN nq)
          go_simp
          refine hK _ _ ?_
          clear hK K
          generalize w9.drewN nq = w10 at *
          refine wpAny_take (i := 5) (v := ?v5) rfl (by kernel_rfl) (by kernel_rfl) (by kernel_rfl) (fun _ _ _ h => h) (Or.inl ⟨by kernel_rfl, ?h5⟩) ?_
          case h5 => intro w; go_simp; try with_reducible rfl
          go_simp
          refine wpAny_take (i := 6) (v := ?v6) rfl (by kernel_rfl) (by kernel_rfl) (by kernel_rfl) (fun _ _ _ h => h) (Or.inl ⟨by kernel_rfl, ?h6⟩) ?_
          case h6 => intro w; go_simp; try with_reducible rfl
          go_simp
          refine wpAny_take (i := 7) (v := ?v7) rfl (by kernel_rfl) (by kernel_rfl) (by kernel_rfl) (fun _ _ _ h => h) (Or.inl ⟨by kernel_rfl, ?h7⟩) ?_
          case h7 => intro w; go_simp; try with_reducible rfl
          go_simp
          refine wpAny_take (i := 9) (v := ?v9) rfl (by kernel_rfl) (by kernel_rfl) (by kernel_rfl) (fun _ _ _ h => h) (Or.inl ⟨by kernel_rfl, ?h9⟩) ?_
          case h9 => intro w; go_simp; try with_reducible rfl
          go_simp
          refine wpAny_ready (rs := [8]) (by kernel_rfl) (by simp) (AllReady.cons rfl (fun K hK => ?_) AllReady.nil)
          go_simp
          refine (HD2.out w10 _ _ S10.out.2.2.1 HCB.out).mono ?_
          rintro e w11 ⟨u11, cu11, rfl, _, ow11, bw11⟩
          have U11 := Lib.hid (own_of_list ow11).ints
          have S11 := Lib.hid (S10.out.next bw11)
          clear ow11 bw11
          go_simp
          refine hK _ _ ?_
          clear hK K
          refine wpAny_ready (rs := [10]) (by kernel_rfl) (by simp) (AllReady.cons rfl (fun K hK => ?_) AllReady.nil)
          go_simp
          have hsm := sameInts_any u11 a1 cu11 c1 w11.heap.size w11.heap.size xs xs w11 U11.out S11.out.2.1 (by omega)
          refine hsm.mono ?_
          clear hsm
          rintro e wq ⟨rfl, nq, rfl⟩
          have S12 := Lib.hid (S11.out.drewN nq)
          go_simp
          refine hK _ _ ?_
          clear hK K
          generalize w11.drewN nq = w12 at *
          refine wpAny_take (i := 11) (v := ?v11) rfl (by kernel_rfl) (by kernel_rfl) (by kernel_rfl) (fun _ _ _ h => h) (Or.inl ⟨by kernel_rfl, ?h11⟩) ?_
          case h11 => intro w; go_simp; try with_reducible rfl
          go_simp
          refine wpAny_take (i := 12) (v := ?v12) rfl (by kernel_rfl) (by kernel_rfl) (by kernel_rfl) (fun _ _ _ h => h) (Or.inl ⟨by kernel_rfl, ?h12⟩) ?_
          case h12 => intro w; go_simp; try with_reducible rfl
          go_simp
          refine wpAny_take (i := 13) (v := ?v13) rfl (by kernel_rfl) (by kernel_rfl) (by kernel_rfl) (fun _ _ _ h => h) (Or.inl ⟨by kernel_rfl, ?h13⟩) ?_
          case h13 => intro w; go_simp; try with_reducible rfl
          go_simp
          refine wpAny_take (i := 14) (v := ?v14) rfl (by kernel_rfl) (by kernel_rfl) (by kernel_rfl) (fun _ _ _ h => h) (Or.inl ⟨by kernel_rfl, ?h14⟩) ?_
          case h14 => intro w; go_simp; try with_reducible rfl
          go_simp
          refine wpAny_take (i := 16) (v := ?v16) rfl (by kernel_rfl) (by kernel_rfl) (by kernel_rfl) (fun _ _ _ h => h) (Or.inl ⟨by kernel_rfl, ?h16⟩) ?_
          case h16 => intro w; go_simp; try with_reducible rfl
          go_simp
          refine wpAny_ready (rs := [15]) (by kernel_rfl) (by simp) (AllReady.cons rfl (fun K hK => ?_) AllReady.nil)
          go_simp
          refine (HD3.out w12 _ _ S12.out.2.2.1 HCB.out).mono ?_
          rintro e w13 ⟨u13, cu13, rfl, _, ow13, bw13⟩
          rw [HOl.out]
          have U13 := Lib.hid (own_of_list ow13).ints
          have S13 := Lib.hid (S12.out.next bw13)
          clear ow13 bw13
          go_simp
          refine hK _ _ ?_
          clear hK K
          refine wpAny_ready (rs := [17]) (by kernel_rfl) (by simp) (AllReady.cons rfl (fun K hK => ?_) AllReady.nil)
          go_simp
          have hsm := sameInts_any u13 v cu13 cap w13.heap.size w13.heap.size os os w13 U13.out S13.out.2.2.2.1 (by omega)
          rw [HOl.out] at hsm
          refine hsm.mono ?_
          clear hsm
          rintro e wq ⟨rfl, nq, rfl⟩
          have S14 := Lib.hid (S13.out.drewN nq)
          go_simp
          refine hK _ _ ?_
          clear hK K
          generalize w13.drewN nq = w14 at *
          refine wpAny_take (i := 18) (v := ?v18) rfl (by kernel_rfl) (by kernel_rfl) (by kernel_rfl) (fun _ _ _ h => h) (Or.inl ⟨by kernel_rfl, ?h18⟩) ?_
          case h18 => intro w; go_simp; try with_reducible rfl
          go_simp
          refine wpAny_take (i := 19) (v := ?v19) rfl (by kernel_rfl) (by kernel_rfl) (by kernel_rfl) (fun _ _ _ h => h) (Or.inl ⟨by kernel_rfl, ?h19⟩) ?_
          case h19 => intro w; go_simp; try with_reducible rfl
          go_simp
          refine wpAny_take (i := 20) (v := ?v20) rfl (by kernel_rfl) (by kernel_rfl) (by kernel_rfl) (fun _ _ _ h => h) (Or.inl ⟨by kernel_rfl, ?h20⟩) ?_
          case h20 => intro w; go_simp; try with_reducible rfl
          go_simp
          refine wpAny_take (i := 21) (v := ?v21) rfl (by kernel_rfl) (by kernel_rfl) (by kernel_rfl) (fun _ _ _ h => h) (Or.inl ⟨by kernel_rfl, ?h21⟩) ?_
          case h21 => intro w; go_simp; try with_reducible rfl
          go_simp
          refine wpAny_take (i := 23) (v := ?v23) rfl (by kernel_rfl) (by kernel_rfl) (by kernel_rfl) (fun _ _ _ h => h) (Or.inl ⟨by kernel_rfl, ?h23⟩) ?_
          case h23 => intro w; go_simp; try with_reducible rfl
          go_simp
          refine wpAny_take (i := 24) (v := ?v24) rfl (by kernel_rfl) (by kernel_rfl) (by kernel_rfl) (fun _ _ _ h => h) (Or.inl ⟨by kernel_rfl, ?h24⟩) ?_
          case h24 => intro w; go_simp; try with_reducible rfl
          go_simp
          refine wpAny_ready (rs := [22, 25]) (by kernel_rfl) (by simp) (AllReady.cons rfl (fun K hK => ?_) (AllReady.cons rfl (fun K hK => ?_) AllReady.nil))
          · have hmk0 := Lib.hid hmk
            clear hmk
            go_simp
            refine (HD4.out w14 _ _ S14.out.1 HC2.out).mono ?_
            rintro e w15 ⟨u15, cu15, rfl, _, o15, b15⟩
            rw [List.length_replicate]
            have U15 := Lib.hid (own_of_list o15).ints
            have S15 := Lib.hid (S14.out.next b15)
            clear o15 b15
            go_simp
            refine hK _ _ ?_
            clear hK K
            have hmk := hmk0.out
            refine wpAny_ready (rs := [25]) (by kernel_rfl) (by simp) (AllReady.cons rfl (fun K hK => ?_) AllReady.nil)
            go_simp
            refine hK _ _ ?_
            clear hK K hmk
            have U16 := Lib.hid (U15.out.next (alloc_belowX w15 (.cells (madeCells #[.int .i64 0] xs.length) 3)))
            have S16 := Lib.hid (S15.out.next (alloc_belowX w15 (.cells (madeCells #[.int .i64 0] xs.length) 3)))
            have Q16 := Lib.hid (zeros_intsW w15 xs.length)
            obtain ⟨g16, hg16⟩ : ∃ g, g = w15.heap.size := ⟨_, rfl⟩
            rw [← hg16] at Q16 ⊢
            clear hg16
            generalize w15.alloc (.cells (madeCells #[.int .i64 0] xs.length) 3) = w16 at *
            refine wpAny_ready (rs := [26]) (by kernel_rfl) (by simp) (AllReady.cons rfl (fun K hK => ?_) AllReady.nil)
            go_simp
            have hsm := sameInts_any u15 (some ⟨g16, 0, none⟩) cu15 xs.length w16.heap.size w16.heap.size (List.replicate xs.length 0) (List.replicate xs.length 0) w16 U16.out Q16.out (by rw [List.length_replicate]; omega)
            rw [List.length_replicate] at hsm
            refine hsm.mono ?_
            clear hsm
            rintro e wq ⟨rfl, nq, rfl⟩
            have S17 := Lib.hid (S16.out.drewN nq)
            go_simp
            refine hK _ _ ?_
            clear hK K
            generalize w16.drewN nq = w17 at *
            refine wpAny_take (i := 27) (v := ?v27) rfl (by kernel_rfl) (by kernel_rfl) (by kernel_rfl) (fun _ _ _ h => h) (Or.inl ⟨by kernel_rfl, ?h27⟩) ?_
            case h27 => intro w; go_simp; try with_reducible rfl
            go_simp
            refine wpAny_take (i := 28) (v := ?v28) rfl (by kernel_rfl) (by kernel_rfl) (by kernel_rfl) (fun _ _ _ h => h) (Or.inl ⟨by kernel_rfl, ?h28⟩) ?_
            case h28 => intro w; go_simp; try with_reducible rfl
            go_simp
            refine wpAny_done (by kernel_rfl) ?_ _
            go_wp2
            go_ret
            exact ⟨rfl, S17.out.2.2.2.2⟩
          · go_simp
            refine hK _ _ ?_
            clear hK K hmk
            have S15 := Lib.hid (S14.out.next (alloc_belowX w14 (.cells (madeCells #[.int .i64 0] xs.length) 3)))
            have Q15 := Lib.hid (zeros_intsW w14 xs.length)
            obtain ⟨g16, hg16⟩ : ∃ g, g = w14.heap.size := ⟨_, rfl⟩
            rw [← hg16] at Q15 ⊢
            clear hg16
            generalize w14.alloc (.cells (madeCells #[.int .i64 0] xs.length) 3) = w15 at *
            refine wpAny_ready (rs := [22]) (by kernel_rfl) (by simp) (AllReady.cons rfl (fun K hK => ?_) AllReady.nil)
            go_simp
            refine (HD4.out w15 _ _ S15.out.1 HC2.out).mono ?_
            rintro e w16 ⟨u16, cu16, rfl, _, o16, b16⟩
            rw [List.length_replicate]
            have U16 := Lib.hid (own_of_list o16).ints
            have S16 := Lib.hid (S15.out.next b16)
            have Q16 := Lib.hid (Q15.out.next b16)
            clear o16 b16
            go_simp
            refine hK _ _ ?_
            clear hK K
            refine wpAny_ready (rs := [26]) (by kernel_rfl) (by simp) (AllReady.cons rfl (fun K hK => ?_) AllReady.nil)
            go_simp
            have hsm := sameInts_any u16 (some ⟨g16, 0, none⟩) cu16 xs.length w16.heap.size w16.heap.size (List.replicate xs.length 0) (List.replicate xs.length 0) w16 U16.out Q16.out (by rw [List.length_replicate]; omega)
            rw [List.length_replicate] at hsm
            refine hsm.mono ?_
            clear hsm
            rintro e wq ⟨rfl, nq, rfl⟩
            have S17 := Lib.hid (S16.out.drewN nq)
            go_simp
            refine hK _ _ ?_
            clear hK K
            generalize w16.drewN nq = w17 at *
            refine wpAny_take (i := 27) (v := ?v27) rfl (by kernel_rfl) (by kernel_rfl) (by kernel_rfl) (fun _ _ _ h => h) (Or.inl ⟨by kernel_rfl, ?h27⟩) ?_
            case h27 => intro w; go_simp; try with_reducible rfl
            go_simp
            refine wpAny_take (i := 28) (v := ?v28) rfl (by kernel_rfl) (by kernel_rfl) (by kernel_rfl) (fun _ _ _ h => h) (Or.inl ⟨by kernel_rfl, ?h28⟩) ?_
            case h28 => intro w; go_simp; try with_reducible rfl
            go_simp
            refine wpAny_done (by kernel_rfl) ?_ _
            go_wp2
            go_ret
            exact ⟨rfl, S17.out.2.2.2.2⟩
  · go_enter Try.func4, Try.ntmps4
    go_wp2
    go_ret
    exact ⟨rfl, Below.refl _ _⟩
end Go.Proofs.Ytnnknfpkbhcghaa
