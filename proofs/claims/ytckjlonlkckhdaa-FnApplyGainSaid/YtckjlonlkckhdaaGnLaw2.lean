/-
  The laws of ApplyGain and RemoveMean, walked: they return true for every code, and write into nothing that was there. No condition.
-/
import Derived.Test.YtckjlonlkckhdaaGnLaw1
namespace Go.Proofs.Ytckjlonlkckhdaa
open Go.RowKit

theorem negL_el {xs : List Int} {k : Nat} (h : k < xs.length) : el (negL xs xs.length) k = -(el xs k) := by simp [negL, el, h]
theorem agOr_256 {xs : List Int} (h : seqOk xs = true) : agOr 256 xs = xs := by rw [agOr_yes h (by decide) (by decide), agL_256 h]
/-- What becomes of a sequence and of the negated one. -/
theorem ag_pair {g : Int} {xs : List Int} (h : seqOk xs = true) (hg : 1 ≤ g ∧ g ≤ 4096) : agOr g (negL xs xs.length) = agL g (negL xs xs.length) ∧ (agL g (negL xs xs.length)).length = xs.length ∧
    ∀ k, k < xs.length → ∃ x l p : Int, x = el (agL g xs) k ∧ -x = el (agL g (negL xs xs.length)) k ∧ l = el xs k ∧ x * l = p ∧ 0 ≤ p ∧ (-1000 ≤ x ∧ x ≤ 1000) ∧ p ≤ 1000000 := by
  have hn : seqOk (negL xs xs.length) = true := by rw [negL_ok]; exact h
  refine ⟨agOr_yes hn hg.1 hg.2, by rw [agL_length, negL_length], fun k hk => ⟨_, _, _, rfl, ?_, rfl, rfl, ?_, ?_, ?_⟩⟩
  · rw [agL_el hk, agL_el (by rw [negL_length]; exact hk), agF_neg (negL_el hk)]
  · rw [agL_el hk]; exact agF_sign hg.1
  · rw [agL_el hk]; exact clip_in (by omega) _
  · have h1 : -1000 ≤ el (agL g xs) k ∧ el (agL g xs) k ≤ 1000 := by rw [agL_el hk]; exact clip_in (by omega) _
    have h2 := seqOk_in h k
    have h3 : (el (agL g xs) k * el xs k).natAbs ≤ 1000 * 1000 := by rw [Int.natAbs_mul]; exact Nat.mul_le_mul (by omega) (by omega)
    omega
theorem seqOk_rep {xs : List Int} (h : seqOk xs = true) (n : Nat) (hn : n ≤ 64) : seqOk (List.replicate n (el xs 0)) = true := seqOk_of (by simpa using hn) fun i hi => by
  have e : el (List.replicate n (el xs 0)) i = el xs 0 := by simp at hi; simp [el, hi]
  rw [e]; exact seqOk_in h 0
theorem rm_rep {xs : List Int} (h : seqOk xs = true) {n : Nat} (hn : n ≤ 64) (h0 : 0 < n) : rmOr (List.replicate n (el xs 0)) = List.replicate n 0 := by
  rw [rmOr_yes (seqOk_rep h n hn) (by simpa using h0), rm_flat h0]
set_option maxHeartbeats 4000000 in
theorem walkApplyGain (a : Option Addr) (c : Nat) (ds : List Int) (w : World) (hx : Ints .u8 w w.heap.size a ds) (hw : ∀ n ∈ ds, (Lit.int .u8 n).wf = true) (hc : ds.length ≤ c) (hcm : c ≤ maxLen) :
    Calls Try.prog 5 #[.slice a ds.length c] w fun e w' => e = .returned (.bool true) ∧ Below w.heap.size w w' := by
  have hb := isByte_of_wf hw
  clear hw
  by_cases hl : ds.length ≤ 1048576
  · go_enter Try.func5, Try.ntmps5
    go_wp2_with fail
    refine (drawApplyGain_any a c ds w hx hb hc hcm).mono ?_
    rintro e w1 ⟨g, xs, b0, c0, rfl, hgb, ⟨lx, _, _, i1⟩, bl⟩
    have X1 := Lib.hid i1
    have B1 := Lib.hid bl
    clear hx hb hc hcm i1 bl
    obtain ⟨S, hS⟩ : ∃ S, S = agOr g xs := ⟨_, rfl⟩
    have HS := Lib.hid hS
    have hSl : S.length ≤ 64 := by rw [hS]; exact agOr_length g xs
    have z3 : decide (S = S) = true := by simp
    clear hS
    go_wp2_with fail
    refine (applyGain_any _ c0 g xs w1 X1.out).mono ?_
    rw [← HS.out]
    rintro e w2 ⟨v2, cv2, rfl, _, o2, b2⟩
    have Y2 := Lib.hid (own_of_list o2).ints
    have X2 := Lib.hid (X1.out.next b2)
    have B2 := Lib.hid (Below.next B1.out (Nat.le_refl _) b2)
    clear o2 b2 X1 B1
    go_wp2_with fail
    refine (specApplyGain_any _ c0 g xs w2 X2.out (by unfold maxLen; omega)).mono ?_
    rw [← HS.out]
    rintro e w3 ⟨v3, cv3, rfl, _, o3, b3⟩
    have U3 := Lib.hid (own_of_list o3).ints
    have Y3 := Lib.hid (Y2.out.next b3)
    have X3 := Lib.hid (X2.out.next b3)
    have B3 := Lib.hid (Below.next B2.out (Nat.le_refl _) b3)
    clear o3 b3 Y2 X2 B2
    go_wp2_with fail
    refine (sameInts_any v2 v3 cv2 cv3 w3.heap.size w3.heap.size S S w3 Y3.out U3.out (by omega)).mono ?_
    rintro e w4 ⟨rfl, n4, rfl⟩
    have B4 := Lib.hid (below_drewN B3.out n4)
    have Y4 : Hid (Ints .i64 (w3.drewN n4) (w3.drewN n4).heap.size v2 S) := Y3.out
    have X4 : Hid (Ints .i64 (w3.drewN n4) (w3.drewN n4).heap.size (some ⟨b0, 0, none⟩) xs) := X3.out
    clear Y3 X3 B3 U3
    generalize w3.drewN n4 = w4 at *
    have HAL := Lib.hid (alive_from B4.out)
    by_cases hS0 : S.length = 0
    · have z4 : ((S.length : Int) == 0) = true := by simp [hS0]
      clear hS0
      go_wp2_with fail
      refine HAL.out.mono ?_
      rintro e w8 ⟨rfl, b8⟩
      have B8 := Lib.hid b8
      clear b8
      go_wp2
      go_ret
      exact ⟨rfl, B8.out⟩
    · have z4 : ((S.length : Int) == 0) = false := by rw [beq_eq_false_iff_ne]; omega
      obtain ⟨ho, hg, he⟩ := agOr_case (g := g) (xs := xs) (by rw [← HS.out]; exact hS0)
      have hSe : S = agL g xs := by rw [HS.out, he]
      have hSo : seqOk S = true := by rw [hSe]; exact agL_ok ho
      have hSn : S.length = xs.length := by rw [hSe, agL_length]
      have hlx := seqOk_len ho
      obtain ⟨p1, p2, p3⟩ := ag_pair ho hg
      rw [← hSe] at p3
      have HO := Lib.hid ho
      have HN := Lib.hid hSn
      have HV := Lib.hid (fun W (hY : Ints .i64 W W.heap.size v2 S) => seqV_is v2 cv2 W.heap.size S W true hY hSo)
      have HX256 := Lib.hid (fun W (hX : Ints .i64 W W.heap.size (some ⟨b0, 0, none⟩) xs) => show Calls Try.prog 21 #[.int .i64 256, .slice (some ⟨b0, 0, none⟩) xs.length c0] W (ListPostC xs W) by have h := applyGain_any (some ⟨b0, 0, none⟩) c0 256 xs W hX; rwa [agOr_256 ho] at h)
      obtain ⟨Y, hY⟩ : ∃ Y, Y = agL g (negL xs xs.length) := ⟨_, rfl⟩
      rw [← hY] at p1 p2 p3
      have HNg := Lib.hid (fun W v cc (hX : Ints .i64 W W.heap.size v (negL xs xs.length)) => show Calls Try.prog 21 #[.int .i64 g, .slice v xs.length cc] W (ListPostC Y W) by have h := applyGain_any v cc g (negL xs xs.length) W hX; rw [p1, negL_length] at h; exact h)
      have HYl := Lib.hid p2
      have HP := Lib.hid p3
      have HA4 := Lib.hid (alloc_below w4 (.cells #[] 3))
      clear hS0 ho hg he hSe hSo hSn p1 p2 p3 hY HS HAL hgb
      go_wp2
      clear z4
      go_loopw [6, 7] (fun s i wr => ∃ (k : Nat) (v : Option Addr) (cap : Nat), k ≤ xs.length ∧ i = .int .i64 k ∧ s = .slice v k cap ∧ Grow .i64 3 wr w4.heap.size v k cap (negL xs k) ∧ Below w4.heap.size w4 wr) (fun _ i _ => xs.length - (intOf i).toNat)
      case atStart => exact ⟨0, _, _, Nat.zero_le _, rfl, rfl, Grow.lit0 _ _ _ _ (Nat.le_refl _), HA4.out⟩
      case round =>
        obtain ⟨k, v, cap, hk, rfl, rfl, hgr, hbel⟩ := hrel
        have HG := Lib.hid hgr
        have HB := Lib.hid hbel
        have hsz : w4.heap.size ≤ wr.heap.size := hbel.size
        clear hgr hbel
        by_cases hlt : k < xs.length
        · obtain ⟨bb, off, rfl', hbb, hcc⟩ := (X4.out.next HB.out).at_ hlt
          injection rfl' with rfl'
          injection rfl' with e1 e2
          subst e1 e2
          rw [Nat.zero_add] at hcc
          have hin := seqOk_in HO.out k
          have HT := Lib.hid (negL_snoc xs k)
          have r1 := wrapS (n := -(el xs k)) (by omega)
          have r1' := wrapS' (n := -(el xs k)) (by omega)
          generalize el xs k = x at *
          generalize negL xs k = zs at *
          clear hin hbb
          go_wp2_with (at_builtin; refine wpList_append1 (.tmp 38) (.tmp 44) w4.heap.size v k cap zs ⟨wr.heap.size, 0, none⟩ (-x) rfl rfl rfl rfl (HG.out.alloc _) (by simp) (by omega) (by simp; omega) ?_; intro a3 cap3 w3 hg3 hb3; have HG3 := Lib.hid hg3; have HB3 := Lib.hid hb3; clear hg3 hb3)
          go_roundw
          case rel => exact ⟨k + 1, a3, cap3, by omega, by go_num, rfl, by rw [HT.out]; exact HG3.out, (HB.out.alloc hsz _).trans HB3.out⟩
          case measure => simp [intOf]; omega
        · obtain rfl : xs.length = k := by omega
          have XW := Lib.hid (X4.out.next HB.out)
          have YW := Lib.hid (Y4.out.next HB.out)
          have BW := Lib.hid (B4.out.trans (HB.out.mono B4.out.size))
          have NW := Lib.hid HG.out.ints
          clear HG HB X4 Y4 B4 HA4
          go_wp2_with fail
          refine (HNg.out wr v cap NW.out).mono ?_
          rintro e w6 ⟨v6, cv6, rfl, _, o6, b6⟩
          rw [HYl.out]
          have N6 := Lib.hid (own_of_list o6).ints
          have X6 := Lib.hid (XW.out.next b6)
          have Y6 := Lib.hid (YW.out.next b6)
          have B6 := Lib.hid (Below.next BW.out (Nat.le_refl _) b6)
          clear o6 b6 XW YW BW NW HNg
          go_wp2
          go_loopw [9] (fun i wr => ∃ k n : Nat, k ≤ S.length ∧ i = .int .i64 k ∧ wr = w6.drewN n) (fun i _ => S.length - (intOf i).toNat)
          case atStart => exact ⟨0, 0, Nat.zero_le _, rfl, rfl⟩
          case round =>
            obtain ⟨k, n, hk, rfl, rfl⟩ := hrel
            have hk64 : k ≤ 64 := by omega
            by_cases hlt : k < S.length
            · have hlt2 : k < xs.length := by rw [← HN.out]; exact hlt
              obtain ⟨x, l, p, hx, hy, hl2, hp, hp0, hxb, hpb⟩ := HP.out k hlt2
              obtain ⟨bs, os, es, _, hcs⟩ := Y6.out.at_ hlt
              obtain ⟨by', oy, ey, _, hcy⟩ := N6.out.at_ (i := k) (by rw [HYl.out]; exact hlt2)
              obtain ⟨bl, ol, el_, _, hcl⟩ := X6.out.at_ hlt2
              injection el_ with el_
              injection el_ with e1 e2
              subst e1 e2 es ey
              rw [Nat.zero_add, ← hl2] at hcl
              rw [← hx] at hcs
              rw [← hy] at hcy
              have r1 : IntKind.i64.wrap (- -x) = x := by rw [Int.neg_neg]; exact wrapS (by omega)
              have r1' : wrap64 (- -x) = x := by rw [Int.neg_neg]; exact wrapS' (by omega)
              have r2 : IntKind.i64.wrap (x * l) = p := by rw [hp]; exact wrapS (by omega)
              have r2' : wrap64 (x * l) = p := by rw [hp]; exact wrapS' (by omega)
              have r3 : IntKind.i64.wrap x = x := wrapS (by omega)
              have r3' : wrap64 x = x := wrapS' (by omega)
              have z1 : (x != x) = false := by simp
              have z2 : decide (p < 0) = false := by simp; omega
              clear hx hy hl2 hp hp0 hxb hpb
              go_wp2
              go_quiet (fail)
              go_wp2
              go_roundw
              case rel => exact ⟨k + 1, _, by omega, by go_num, rfl⟩
              case measure => simp [intOf]; omega
            · obtain rfl : S.length = k := by omega
              have X7 : Hid (Ints .i64 (w6.drewN n) (w6.drewN n).heap.size (some ⟨b0, 0, none⟩) xs) := X6.out
              have Y7 : Hid (Ints .i64 (w6.drewN n) (w6.drewN n).heap.size v2 S) := Y6.out
              have B7 := Lib.hid (below_drewN B6.out n)
              have z8 : decide (xs = xs) = true := by simp
              clear X6 Y6 N6 B6 HP
              generalize w6.drewN n = w7 at *
              go_wp2_with fail
              refine (HV.out w7 Y7.out).mono ?_
              rintro e w8 ⟨rfl, rfl⟩
              go_wp2_with fail
              refine (HX256.out w7 X7.out).mono ?_
              rintro e w9 ⟨v9, cv9, rfl, _, o9, b9⟩
              have V9 := Lib.hid (own_of_list o9).ints
              have X9 := Lib.hid (X7.out.next b9)
              have B9 := Lib.hid (Below.next B7.out (Nat.le_refl _) b9)
              clear o9 b9
              go_wp2_with fail
              refine (sameInts_any v9 _ cv9 c0 w9.heap.size w9.heap.size xs xs w9 V9.out X9.out (Nat.le_trans hlx (by decide))).mono ?_
              rintro e w10 ⟨rfl, n10, rfl⟩
              go_wp2
              go_ret
              exact ⟨rfl, below_drewN B9.out n10⟩
  · go_enter Try.func5, Try.ntmps5
    go_wp2
    go_ret
    exact ⟨rfl, Below.refl _ _⟩
set_option maxHeartbeats 4000000 in
theorem walkRemoveMean (a : Option Addr) (c : Nat) (ds : List Int) (w : World) (hx : Ints .u8 w w.heap.size a ds) (hw : ∀ n ∈ ds, (Lit.int .u8 n).wf = true) (hc : ds.length ≤ c) (hcm : c ≤ maxLen) :
    Calls Try.prog 6 #[.slice a ds.length c] w fun e w' => e = .returned (.bool true) ∧ Below w.heap.size w w' := by
  have hb := isByte_of_wf hw
  clear hw
  by_cases hl : ds.length ≤ 1048576
  · go_enter Try.func6, Try.ntmps6
    go_wp2_with fail
    refine (drawRemoveMean_any a c ds w hx hb hc hcm).mono ?_
    rintro e w1 ⟨xs, b0, c0, rfl, ⟨lx, _, _, i1⟩, bl⟩
    have X1 := Lib.hid i1
    have B1 := Lib.hid bl
    clear hx hb hc hcm i1 bl
    obtain ⟨S, hS⟩ : ∃ S, S = rmOr xs := ⟨_, rfl⟩
    have HS := Lib.hid hS
    have hSl : S.length ≤ 64 := by rw [hS]; exact rmOr_length xs
    have z3 : decide (S = S) = true := by simp
    clear hS
    go_wp2_with fail
    refine (removeMean_any _ c0 xs w1 X1.out).mono ?_
    rw [← HS.out]
    rintro e w2 ⟨v2, cv2, rfl, _, o2, b2⟩
    have Y2 := Lib.hid (own_of_list o2).ints
    have X2 := Lib.hid (X1.out.next b2)
    have B2 := Lib.hid (Below.next B1.out (Nat.le_refl _) b2)
    clear o2 b2 X1 B1
    go_wp2_with fail
    refine (specRemoveMean_any _ c0 xs w2 X2.out (by unfold maxLen; omega)).mono ?_
    rw [← HS.out]
    rintro e w3 ⟨v3, cv3, rfl, _, o3, b3⟩
    have U3 := Lib.hid (own_of_list o3).ints
    have Y3 := Lib.hid (Y2.out.next b3)
    have X3 := Lib.hid (X2.out.next b3)
    have B3 := Lib.hid (Below.next B2.out (Nat.le_refl _) b3)
    clear o3 b3 Y2 X2 B2
    go_wp2_with fail
    refine (sameInts_any v2 v3 cv2 cv3 w3.heap.size w3.heap.size S S w3 Y3.out U3.out (by omega)).mono ?_
    rintro e w4 ⟨rfl, n4, rfl⟩
    have B4 := Lib.hid (below_drewN B3.out n4)
    have Y4 : Hid (Ints .i64 (w3.drewN n4) (w3.drewN n4).heap.size v2 S) := Y3.out
    have X4 : Hid (Ints .i64 (w3.drewN n4) (w3.drewN n4).heap.size (some ⟨b0, 0, none⟩) xs) := X3.out
    clear Y3 X3 B3 U3
    generalize w3.drewN n4 = w4 at *
    have HAL := Lib.hid (alive_from B4.out)
    by_cases hS0 : S.length = 0
    · have z4 : ((S.length : Int) == 0) = true := by simp [hS0]
      clear hS0
      go_wp2_with fail
      refine HAL.out.mono ?_
      rintro e w8 ⟨rfl, b8⟩
      have B8 := Lib.hid b8
      clear b8
      go_wp2
      go_ret
      exact ⟨rfl, B8.out⟩
    · have z4 : ((S.length : Int) == 0) = false := by rw [beq_eq_false_iff_ne]; omega
      obtain ⟨ho, h0, he⟩ := rmOr_case (xs := xs) (by rw [← HS.out]; exact hS0)
      have hSe : S = rmL xs := by rw [HS.out, he]
      have hSo : seqOk S = true := by rw [hSe]; exact rmL_ok ho
      have hSn : S.length = xs.length := by rw [hSe, rmL_length]
      have HSI := Lib.hid (fun k => seqOk_in hSo k)
      have HSB := Lib.hid (fun (k : Nat) (hk : k ≤ 64) => show -1000000000000 ≤ sqS (el S) k ∧ sqS (el S) k ≤ 1000000000000 by
        have := sqS_bound (f := el S) (M := 1000) (n := k) fun i _ => seqOk_in hSo i
        omega)
      have HV := Lib.hid (fun W (hY : Ints .i64 W W.heap.size v2 S) => seqV_is v2 cv2 W.heap.size S W true hY hSo)
      have HSum := Lib.hid (show (∀ j, j < S.length → ab (el S j) ≠ 1000) → ab (sqS (el S) S.length) < S.length from fun h => by
        have h2 := (rm_sum h0 (fun k hk => by have := h k (by rw [hSn]; exact hk); rwa [hSe, rmL_el hk] at this)).2
        rw [← hSe] at h2
        unfold sumL at h2
        omega)
      obtain ⟨q, hq⟩ : ∃ q, q = el xs 0 := ⟨_, rfl⟩
      have HFl := rm_rep ho hSl (by omega)
      rw [← hq] at HFl
      obtain ⟨bb, off, rfl', hbb, hcc⟩ := X4.out.at_ h0
      injection rfl' with rfl'
      injection rfl' with e1 e2
      subst e1 e2
      rw [Nat.zero_add, ← hq] at hcc
      have HQ := Lib.hid hcc
      have h0i : (0 : Int) < (xs.length : Int) := by omega
      have HF0 := fun W v cc (hX : Ints .i64 W W.heap.size v (List.replicate S.length q)) => removeMean_any v cc (List.replicate S.length q) W hX
      simp only [HFl, List.length_replicate] at HF0
      have HA4 := Lib.hid (alloc_below w4 (.cells #[] 3))
      have HXb := Lib.hid hbb
      clear ho he hSe hSo hSn hq hbb hcc HS HAL HFl
      go_wp2
      clear z4
      go_loopw [5, 6, 7, 8] (fun s e f i wr => ∃ (k : Nat) (v : Option Addr) (cap : Nat) (b : Bool), k ≤ S.length ∧ i = .int .i64 k ∧ s = .int .i64 (sqS (el S) k) ∧ e = .bool b ∧ (b = false → ∀ j, j < k → ab (el S j) ≠ 1000) ∧ f = .slice v k cap ∧ Grow .i64 3 wr w4.heap.size v k cap (List.replicate k q) ∧ Below w4.heap.size w4 wr) (fun _ _ _ i _ => S.length - (intOf i).toNat)
      case atStart => exact ⟨0, _, _, false, Nat.zero_le _, rfl, rfl, rfl, fun _ j hj => absurd hj (by omega), rfl, Grow.lit0 _ _ _ _ (Nat.le_refl _), HA4.out⟩
      case round =>
        obtain ⟨k, v, cap, b, hk, rfl, rfl, rfl, hed, rfl, hgr, hbel⟩ := hrel
        have HG := Lib.hid hgr
        have HB := Lib.hid hbel
        have HE := Lib.hid hed
        have hsz : w4.heap.size ≤ wr.heap.size := hbel.size
        have hk64 : k ≤ 64 := by omega
        clear hgr hbel hed
        by_cases hlt : k < S.length
        · obtain ⟨bs, os, es, _, hcs⟩ := (Y4.out.next HB.out).at_ hlt
          subst es
          have hc0 : wr.cell? ⟨b0, 0, none⟩ = some (.int .i64 q) := (Below.cell HB.out HXb.out).trans HQ.out
          obtain ⟨p, hp⟩ : ∃ p, p = sqS (el S) k := ⟨_, rfl⟩
          obtain ⟨x, hx⟩ : ∃ x, x = el S k := ⟨_, rfl⟩
          have hin := HSI.out k
          have hs := HSB.out (k + 1) (by omega)
          obtain ⟨s, hs1⟩ : ∃ s, s = sqS (el S) (k + 1) := ⟨_, rfl⟩
          rw [← hs1] at hs
          have hsum : p + x = s := by rw [hp, hx, hs1]; rfl
          rw [← hx] at hcs hin
          rw [← hp]
          obtain ⟨y, hy⟩ : ∃ y, ab x = y := ⟨_, rfl⟩
          have HAb := Lib.hid (fun W => absG_is x y W (by omega) hy)
          have HN := Lib.hid hs1
          have HYx := Lib.hid (show ab (el S k) = y by rw [← hx]; exact hy)
          have r1 : IntKind.i64.wrap (p + x) = s := by rw [hsum]; exact wrapS hs
          have r1' : wrap64 (p + x) = s := by rw [hsum]; exact wrapS' hs
          have HT := Lib.hid (show List.replicate (k + 1) q = List.replicate k q ++ [q] from List.replicate_succ')
          generalize List.replicate k q = zs at *
          clear hp hx hin hs hs1 hsum hy
          cases b
          · by_cases h1000 : y = 1000
            · have z1 : (y == 1000) = true := by simp [h1000]
              clear h1000
              go_wp2_with (first
                | (go_at_call 16; ((with_reducible refine (HAb.out _).mono ?_); rintro e w5 ⟨rfl, rfl⟩))
                | (at_builtin; refine wpList_append1 (.tmp 47) (.tmp 51) w4.heap.size v k cap zs ⟨wr.heap.size, 0, none⟩ q rfl rfl rfl rfl (HG.out.alloc _) (by simp) (by omega) (by simp; omega) ?_; intro a3 cap3 w3 hg3 hb3; have HG3 := Lib.hid hg3; have HB3 := Lib.hid hb3; clear hg3 hb3))
              go_roundw
              case rel => exact ⟨k + 1, a3, cap3, true, by omega, by go_num, by first | rw [← HN.out] | (rw [← HN.out, r1']), rfl, fun h => (by cases h), rfl, by rw [HT.out]; exact HG3.out, (HB.out.alloc hsz _).trans HB3.out⟩
              case measure => simp [intOf]; omega
            · have z1 : (y == 1000) = false := by simp [h1000]
              have HE2 := Lib.hid (show ∀ j, j < k + 1 → ab (el S j) ≠ 1000 from fun j hj => by
                by_cases e : j = k
                · rw [e, HYx.out]; exact h1000
                · exact HE.out rfl j (by omega))
              clear h1000
              go_wp2_with (first
                | (go_at_call 16; ((with_reducible refine (HAb.out _).mono ?_); rintro e w5 ⟨rfl, rfl⟩))
                | (at_builtin; refine wpList_append1 (.tmp 47) (.tmp 51) w4.heap.size v k cap zs ⟨wr.heap.size, 0, none⟩ q rfl rfl rfl rfl (HG.out.alloc _) (by simp) (by omega) (by simp; omega) ?_; intro a3 cap3 w3 hg3 hb3; have HG3 := Lib.hid hg3; have HB3 := Lib.hid hb3; clear hg3 hb3))
              go_roundw
              case rel => exact ⟨k + 1, a3, cap3, false, by omega, by go_num, by first | rw [← HN.out] | (rw [← HN.out, r1']), rfl, fun _ => HE2.out, rfl, by rw [HT.out]; exact HG3.out, (HB.out.alloc hsz _).trans HB3.out⟩
              case measure => simp [intOf]; omega
          · skip
            go_wp2_with (first
              | (go_at_call 16; ((with_reducible refine (HAb.out _).mono ?_); rintro e w5 ⟨rfl, rfl⟩))
              | (at_builtin; refine wpList_append1 (.tmp 47) (.tmp 51) w4.heap.size v k cap zs ⟨wr.heap.size, 0, none⟩ q rfl rfl rfl rfl (HG.out.alloc _) (by simp) (by omega) (by simp; omega) ?_; intro a3 cap3 w3 hg3 hb3; have HG3 := Lib.hid hg3; have HB3 := Lib.hid hb3; clear hg3 hb3))
            go_roundw
            case rel => exact ⟨k + 1, a3, cap3, true, by omega, by go_num, by first | rw [← HN.out] | (rw [← HN.out, r1']), rfl, fun h => (by cases h), rfl, by rw [HT.out]; exact HG3.out, (HB.out.alloc hsz _).trans HB3.out⟩
            case measure => simp [intOf]; omega
        · obtain rfl : S.length = k := by omega
          have HF := Lib.hid (fun W (hX : Ints .i64 W W.heap.size v (List.replicate S.length q)) => HF0 W v cap hX)
          have SD0 := Y4.out.next HB.out
          have SD : Hid (Ints .i64 wr.drew wr.drew.heap.size v2 S) := SD0
          have FD : Hid (Ints .i64 wr.drew wr.drew.heap.size v (List.replicate S.length q)) := HG.out.ints
          have BD : Hid (Below w.heap.size w wr.drew) := Lib.hid ((B4.out.trans (HB.out.mono B4.out.size)).drew)
          have hmk := fun W => makeX S.length (by omega) W
          have zz : decide (List.replicate S.length (0 : Int) = List.replicate S.length (0 : Int)) = true := by simp
          obtain ⟨s, hs⟩ : ∃ s, s = sqS (el S) S.length := ⟨_, rfl⟩
          have hsb := HSB.out S.length hSl
          have hab := HSum.out
          rw [← hs] at hsb hab
          rw [← hs]
          clear SD0 HF0 hs HG HB Y4 X4 B4 HA4 HQ HXb HSB HSI HSum h0i
          cases b
          · obtain ⟨y, hy⟩ : ∃ y, ab s = y := ⟨_, rfl⟩
            have hlt2 : y < (S.length : Int) := by rw [← hy]; exact hab (HE.out rfl)
            have HAb := Lib.hid (fun W => absG_is s y W hsb hy)
            clear hab hy hsb HE
            go_wp2
            refine wp_region_any (by kernel_rfl) ?_
            change wpAny _ _ _ _ _ _ _ (World.drew _)
            generalize wr.drew = u0 at *
            refine wpAny_take (i := 0) (v := ?v101) rfl (by kernel_rfl) (by kernel_rfl) (by kernel_rfl) (fun _ _ _ h => h) (Or.inl ⟨by kernel_rfl, ?h101⟩) ?_
            case h101 => intro w; go_simp; try with_reducible rfl
            go_simp
            refine wpAny_ready (rs := [1]) (by kernel_rfl) (by simp) (AllReady.cons rfl (fun K hK => ?_) AllReady.nil)
            go_simp
            refine (HV.out u0 SD.out).mono ?_
            rintro e w5 ⟨rfl, rfl⟩
            go_simp
            refine hK _ _ ?_
            clear hK K
            refine wpAny_take (i := 2) (v := ?v102) rfl (by kernel_rfl) (by kernel_rfl) (by kernel_rfl) (fun _ _ _ h => h) (Or.inl ⟨by kernel_rfl, ?h102⟩) ?_
            case h102 => intro w; go_simp; try with_reducible rfl
            go_simp
            refine wpAny_take (i := 3) (v := ?v103) rfl (by kernel_rfl) (by kernel_rfl) (by kernel_rfl) (fun _ _ _ h => h) (Or.inl ⟨by kernel_rfl, ?h103⟩) ?_
            case h103 => intro w; go_simp; try with_reducible rfl
            go_simp
            refine wpAny_take (i := 4) (v := ?v104) rfl (by kernel_rfl) (by kernel_rfl) (by kernel_rfl) (fun _ _ _ h => h) (Or.inl ⟨by kernel_rfl, ?h104⟩) ?_
            case h104 => intro w; go_simp; try with_reducible rfl
            go_simp
            refine wpAny_take (i := 5) (v := ?v105) rfl (by kernel_rfl) (by kernel_rfl) (by kernel_rfl) (fun _ _ _ h => h) (Or.inl ⟨by kernel_rfl, ?h105⟩) ?_
            case h105 => intro w; go_simp; try with_reducible rfl
            go_simp
            refine wpAny_take (i := 7) (v := ?v106) rfl (by kernel_rfl) (by kernel_rfl) (by kernel_rfl) (fun _ _ _ h => h) (Or.inl ⟨by kernel_rfl, ?h106⟩) ?_
            case h106 => intro w; go_simp; try with_reducible rfl
            go_simp
            refine wpAny_take (i := 8) (v := ?v107) rfl (by kernel_rfl) (by kernel_rfl) (by kernel_rfl) (fun _ _ _ h => h) (Or.inl ⟨by kernel_rfl, ?h107⟩) ?_
            case h107 => intro w; go_simp; try with_reducible rfl
            go_simp
            refine wpAny_ready (rs := [6]) (by kernel_rfl) (by simp) (AllReady.cons rfl (fun K hK => ?_) AllReady.nil)
            go_simp
            refine (HAb.out u0).mono ?_
            rintro e w5 ⟨rfl, rfl⟩
            go_simp
            refine hK _ _ ?_
            clear hK K
            refine wpAny_take (i := 9) (v := ?v108) rfl (by kernel_rfl) (by kernel_rfl) (by kernel_rfl) (fun _ _ _ h => h) (Or.inl ⟨by kernel_rfl, ?h108⟩) ?_
            case h108 => intro w; go_simp; try with_reducible rfl
            go_simp
            refine wpAny_take (i := 10) (v := ?v109) rfl (by kernel_rfl) (by kernel_rfl) (by kernel_rfl) (fun _ _ _ h => h) (Or.inl ⟨by kernel_rfl, ?h109⟩) ?_
            case h109 => intro w; go_simp; try with_reducible rfl
            go_simp
            refine wpAny_take (i := 11) (v := ?v110) rfl (by kernel_rfl) (by kernel_rfl) (by kernel_rfl) (fun _ _ _ h => h) (Or.inl ⟨by kernel_rfl, ?h110⟩) ?_
            case h110 => intro w; go_simp; try with_reducible rfl
            go_simp
            refine wpAny_take (i := 12) (v := ?v111) rfl (by kernel_rfl) (by kernel_rfl) (by kernel_rfl) (fun _ _ _ h => h) (Or.inl ⟨by kernel_rfl, ?h111⟩) ?_
            case h111 => intro w; go_simp; try with_reducible rfl
            go_simp
            refine wpAny_take (i := 13) (v := ?v112) rfl (by kernel_rfl) (by kernel_rfl) (by kernel_rfl) (fun _ _ _ h => h) (Or.inl ⟨by kernel_rfl, ?h112⟩) ?_
            case h112 => intro w; go_simp; try with_reducible rfl
            go_simp
            refine wpAny_take (i := 15) (v := ?v113) rfl (by kernel_rfl) (by kernel_rfl) (by kernel_rfl) (fun _ _ _ h => h) (Or.inl ⟨by kernel_rfl, ?h113⟩) ?_
            case h113 => intro w; go_simp; try with_reducible rfl
            go_simp
            refine wpAny_take (i := 16) (v := ?v114) rfl (by kernel_rfl) (by kernel_rfl) (by kernel_rfl) (fun _ _ _ h => h) (Or.inl ⟨by kernel_rfl, ?h114⟩) ?_
            case h114 => intro w; go_simp; try with_reducible rfl
            go_simp
            refine wpAny_ready (rs := [14, 17]) (by kernel_rfl) (by simp) (AllReady.cons rfl (fun K hK => ?_) (AllReady.cons rfl (fun K hK => ?_) AllReady.nil))
            · have hmk0 := hmk
              clear hmk
              go_simp
              refine (HF.out u0 FD.out).mono ?_
              rintro e w6 ⟨v6, cv6, rfl, _, o6, b6⟩
              rw [List.length_replicate]
              have V6 := Lib.hid (own_of_list o6).ints
              have B6 := Lib.hid (Below.next BD.out (Nat.le_refl _) b6)
              clear o6 b6
              go_simp
              refine hK _ _ ?_
              clear hK K
              have hmk := hmk0
              clear hmk0
              refine wpAny_ready (rs := [17]) (by kernel_rfl) (by simp) (AllReady.cons rfl (fun K hK => ?_) AllReady.nil)
              go_simp
              refine hK _ _ ?_
              clear hK K
              have hsm := sameInts_any v6 (some ⟨w6.heap.size, 0, none⟩) cv6 S.length (w6.alloc (.cells (madeCells #[.int .i64 0] S.length) 3)).heap.size (w6.alloc (.cells (madeCells #[.int .i64 0] S.length) 3)).heap.size (List.replicate S.length 0) (List.replicate S.length 0) (w6.alloc (.cells (madeCells #[.int .i64 0] S.length) 3)) (V6.out.next (alloc_below w6 _)) ((zeros_ints w6 S.length).more (by simp)) (by rw [List.length_replicate]; omega)
              rw [List.length_replicate] at hsm
              have HSm := Lib.hid hsm
              have B7 := Lib.hid (B6.out.alloc B6.out.size (.cells (madeCells #[.int .i64 0] S.length) 3))
              clear hsm hmk
              refine wpAny_ready (rs := [18]) (by kernel_rfl) (by simp) (AllReady.cons rfl (fun K hK => ?_) AllReady.nil)
              go_simp
              refine HSm.out.mono ?_
              rintro e w7 ⟨rfl, n7, rfl⟩
              go_simp
              refine hK _ _ ?_
              clear hK K
              refine wpAny_take (i := 19) (v := ?v115) rfl (by kernel_rfl) (by kernel_rfl) (by kernel_rfl) (fun _ _ _ h => h) (Or.inl ⟨by kernel_rfl, ?h115⟩) ?_
              case h115 => intro w; go_simp; try with_reducible rfl
              go_simp
              refine wpAny_take (i := 20) (v := ?v116) rfl (by kernel_rfl) (by kernel_rfl) (by kernel_rfl) (fun _ _ _ h => h) (Or.inl ⟨by kernel_rfl, ?h116⟩) ?_
              case h116 => intro w; go_simp; try with_reducible rfl
              go_simp
              refine wpAny_done (by kernel_rfl) ?_ _
              go_wp2
              go_ret
              exact ⟨rfl, below_drewN B7.out n7⟩
            · go_simp
              refine hK _ _ ?_
              clear hK K
              refine wpAny_ready (rs := [14]) (by kernel_rfl) (by simp) (AllReady.cons rfl (fun K hK => ?_) AllReady.nil)
              clear hmk
              have hmk := True.intro
              go_simp
              refine (HF.out _ (FD.out.next (alloc_below u0 _))).mono ?_
              rintro e w6 ⟨v6, cv6, rfl, _, o6, b6⟩
              rw [List.length_replicate]
              have V6 := Lib.hid (own_of_list o6).ints
              have Z6 := Lib.hid (Ints.next (w := u0.alloc (.cells (madeCells #[.int .i64 0] S.length) 3)) ((zeros_ints u0 S.length).more (by simp)) b6)
              have B6 := Lib.hid (Below.next (BD.out.alloc BD.out.size (.cells (madeCells #[.int .i64 0] S.length) 3)) (Nat.le_refl _) b6)
              clear o6 b6
              go_simp
              refine hK _ _ ?_
              clear hK K
              have hsm := sameInts_any v6 (some ⟨u0.heap.size, 0, none⟩) cv6 S.length w6.heap.size w6.heap.size (List.replicate S.length 0) (List.replicate S.length 0) w6 V6.out Z6.out (by rw [List.length_replicate]; omega)
              rw [List.length_replicate] at hsm
              have HSm := Lib.hid hsm
              have B7 := Lib.hid (B6.out)
              clear hsm hmk
              refine wpAny_ready (rs := [18]) (by kernel_rfl) (by simp) (AllReady.cons rfl (fun K hK => ?_) AllReady.nil)
              go_simp
              refine HSm.out.mono ?_
              rintro e w7 ⟨rfl, n7, rfl⟩
              go_simp
              refine hK _ _ ?_
              clear hK K
              refine wpAny_take (i := 19) (v := ?v117) rfl (by kernel_rfl) (by kernel_rfl) (by kernel_rfl) (fun _ _ _ h => h) (Or.inl ⟨by kernel_rfl, ?h117⟩) ?_
              case h117 => intro w; go_simp; try with_reducible rfl
              go_simp
              refine wpAny_take (i := 20) (v := ?v118) rfl (by kernel_rfl) (by kernel_rfl) (by kernel_rfl) (fun _ _ _ h => h) (Or.inl ⟨by kernel_rfl, ?h118⟩) ?_
              case h118 => intro w; go_simp; try with_reducible rfl
              go_simp
              refine wpAny_done (by kernel_rfl) ?_ _
              go_wp2
              go_ret
              exact ⟨rfl, below_drewN B7.out n7⟩
          · clear hab hsb HE
            go_wp2
            refine wp_region_any (by kernel_rfl) ?_
            change wpAny _ _ _ _ _ _ _ (World.drew _)
            generalize wr.drew = u0 at *
            refine wpAny_take (i := 0) (v := ?v119) rfl (by kernel_rfl) (by kernel_rfl) (by kernel_rfl) (fun _ _ _ h => h) (Or.inl ⟨by kernel_rfl, ?h119⟩) ?_
            case h119 => intro w; go_simp; try with_reducible rfl
            go_simp
            refine wpAny_ready (rs := [1]) (by kernel_rfl) (by simp) (AllReady.cons rfl (fun K hK => ?_) AllReady.nil)
            go_simp
            refine (HV.out u0 SD.out).mono ?_
            rintro e w5 ⟨rfl, rfl⟩
            go_simp
            refine hK _ _ ?_
            clear hK K
            refine wpAny_take (i := 2) (v := ?v120) rfl (by kernel_rfl) (by kernel_rfl) (by kernel_rfl) (fun _ _ _ h => h) (Or.inl ⟨by kernel_rfl, ?h120⟩) ?_
            case h120 => intro w; go_simp; try with_reducible rfl
            go_simp
            refine wpAny_take (i := 3) (v := ?v121) rfl (by kernel_rfl) (by kernel_rfl) (by kernel_rfl) (fun _ _ _ h => h) (Or.inl ⟨by kernel_rfl, ?h121⟩) ?_
            case h121 => intro w; go_simp; try with_reducible rfl
            go_simp
            refine wpAny_take (i := 4) (v := ?v122) rfl (by kernel_rfl) (by kernel_rfl) (by kernel_rfl) (fun _ _ _ h => h) (Or.inl ⟨by kernel_rfl, ?h122⟩) ?_
            case h122 => intro w; go_simp; try with_reducible rfl
            go_simp
            refine wpAny_take (i := 5) (v := undef) rfl (by kernel_rfl) (by kernel_rfl) (by kernel_rfl) (fun _ _ _ h => h) (Or.inr ⟨by kernel_rfl, rfl⟩) ?_
            go_simp
            refine wpAny_take (i := 6) (v := undef) rfl (by kernel_rfl) (by kernel_rfl) (by kernel_rfl) (fun _ _ _ h => h) (Or.inr ⟨by kernel_rfl, rfl⟩) ?_
            go_simp
            refine wpAny_take (i := 7) (v := undef) rfl (by kernel_rfl) (by kernel_rfl) (by kernel_rfl) (fun _ _ _ h => h) (Or.inr ⟨by kernel_rfl, rfl⟩) ?_
            go_simp
            refine wpAny_take (i := 8) (v := undef) rfl (by kernel_rfl) (by kernel_rfl) (by kernel_rfl) (fun _ _ _ h => h) (Or.inr ⟨by kernel_rfl, rfl⟩) ?_
            go_simp
            refine wpAny_take (i := 9) (v := undef) rfl (by kernel_rfl) (by kernel_rfl) (by kernel_rfl) (fun _ _ _ h => h) (Or.inr ⟨by kernel_rfl, rfl⟩) ?_
            go_simp
            refine wpAny_take (i := 10) (v := ?v123) rfl (by kernel_rfl) (by kernel_rfl) (by kernel_rfl) (fun _ _ _ h => h) (Or.inl ⟨by kernel_rfl, ?h123⟩) ?_
            case h123 => intro w; go_simp; try with_reducible rfl
            go_simp
            refine wpAny_take (i := 11) (v := ?v124) rfl (by kernel_rfl) (by kernel_rfl) (by kernel_rfl) (fun _ _ _ h => h) (Or.inl ⟨by kernel_rfl, ?h124⟩) ?_
            case h124 => intro w; go_simp; try with_reducible rfl
            go_simp
            refine wpAny_take (i := 12) (v := ?v125) rfl (by kernel_rfl) (by kernel_rfl) (by kernel_rfl) (fun _ _ _ h => h) (Or.inl ⟨by kernel_rfl, ?h125⟩) ?_
            case h125 => intro w; go_simp; try with_reducible rfl
            go_simp
            refine wpAny_take (i := 13) (v := ?v126) rfl (by kernel_rfl) (by kernel_rfl) (by kernel_rfl) (fun _ _ _ h => h) (Or.inl ⟨by kernel_rfl, ?h126⟩) ?_
            case h126 => intro w; go_simp; try with_reducible rfl
            go_simp
            refine wpAny_take (i := 15) (v := ?v127) rfl (by kernel_rfl) (by kernel_rfl) (by kernel_rfl) (fun _ _ _ h => h) (Or.inl ⟨by kernel_rfl, ?h127⟩) ?_
            case h127 => intro w; go_simp; try with_reducible rfl
            go_simp
            refine wpAny_take (i := 16) (v := ?v128) rfl (by kernel_rfl) (by kernel_rfl) (by kernel_rfl) (fun _ _ _ h => h) (Or.inl ⟨by kernel_rfl, ?h128⟩) ?_
            case h128 => intro w; go_simp; try with_reducible rfl
            go_simp
            refine wpAny_ready (rs := [14, 17]) (by kernel_rfl) (by simp) (AllReady.cons rfl (fun K hK => ?_) (AllReady.cons rfl (fun K hK => ?_) AllReady.nil))
            · have hmk0 := hmk
              clear hmk
              go_simp
              refine (HF.out u0 FD.out).mono ?_
              rintro e w6 ⟨v6, cv6, rfl, _, o6, b6⟩
              rw [List.length_replicate]
              have V6 := Lib.hid (own_of_list o6).ints
              have B6 := Lib.hid (Below.next BD.out (Nat.le_refl _) b6)
              clear o6 b6
              go_simp
              refine hK _ _ ?_
              clear hK K
              have hmk := hmk0
              clear hmk0
              refine wpAny_ready (rs := [17]) (by kernel_rfl) (by simp) (AllReady.cons rfl (fun K hK => ?_) AllReady.nil)
              go_simp
              refine hK _ _ ?_
              clear hK K
              have hsm := sameInts_any v6 (some ⟨w6.heap.size, 0, none⟩) cv6 S.length (w6.alloc (.cells (madeCells #[.int .i64 0] S.length) 3)).heap.size (w6.alloc (.cells (madeCells #[.int .i64 0] S.length) 3)).heap.size (List.replicate S.length 0) (List.replicate S.length 0) (w6.alloc (.cells (madeCells #[.int .i64 0] S.length) 3)) (V6.out.next (alloc_below w6 _)) ((zeros_ints w6 S.length).more (by simp)) (by rw [List.length_replicate]; omega)
              rw [List.length_replicate] at hsm
              have HSm := Lib.hid hsm
              have B7 := Lib.hid (B6.out.alloc B6.out.size (.cells (madeCells #[.int .i64 0] S.length) 3))
              clear hsm hmk
              refine wpAny_ready (rs := [18]) (by kernel_rfl) (by simp) (AllReady.cons rfl (fun K hK => ?_) AllReady.nil)
              go_simp
              refine HSm.out.mono ?_
              rintro e w7 ⟨rfl, n7, rfl⟩
              go_simp
              refine hK _ _ ?_
              clear hK K
              refine wpAny_take (i := 19) (v := ?v129) rfl (by kernel_rfl) (by kernel_rfl) (by kernel_rfl) (fun _ _ _ h => h) (Or.inl ⟨by kernel_rfl, ?h129⟩) ?_
              case h129 => intro w; go_simp; try with_reducible rfl
              go_simp
              refine wpAny_take (i := 20) (v := ?v130) rfl (by kernel_rfl) (by kernel_rfl) (by kernel_rfl) (fun _ _ _ h => h) (Or.inl ⟨by kernel_rfl, ?h130⟩) ?_
              case h130 => intro w; go_simp; try with_reducible rfl
              go_simp
              refine wpAny_done (by kernel_rfl) ?_ _
              go_wp2
              go_ret
              exact ⟨rfl, below_drewN B7.out n7⟩
            · go_simp
              refine hK _ _ ?_
              clear hK K
              refine wpAny_ready (rs := [14]) (by kernel_rfl) (by simp) (AllReady.cons rfl (fun K hK => ?_) AllReady.nil)
              clear hmk
              have hmk := True.intro
              go_simp
              refine (HF.out _ (FD.out.next (alloc_below u0 _))).mono ?_
              rintro e w6 ⟨v6, cv6, rfl, _, o6, b6⟩
              rw [List.length_replicate]
              have V6 := Lib.hid (own_of_list o6).ints
              have Z6 := Lib.hid (Ints.next (w := u0.alloc (.cells (madeCells #[.int .i64 0] S.length) 3)) ((zeros_ints u0 S.length).more (by simp)) b6)
              have B6 := Lib.hid (Below.next (BD.out.alloc BD.out.size (.cells (madeCells #[.int .i64 0] S.length) 3)) (Nat.le_refl _) b6)
              clear o6 b6
              go_simp
              refine hK _ _ ?_
              clear hK K
              have hsm := sameInts_any v6 (some ⟨u0.heap.size, 0, none⟩) cv6 S.length w6.heap.size w6.heap.size (List.replicate S.length 0) (List.replicate S.length 0) w6 V6.out Z6.out (by rw [List.length_replicate]; omega)
              rw [List.length_replicate] at hsm
              have HSm := Lib.hid hsm
              have B7 := Lib.hid (B6.out)
              clear hsm hmk
              refine wpAny_ready (rs := [18]) (by kernel_rfl) (by simp) (AllReady.cons rfl (fun K hK => ?_) AllReady.nil)
              go_simp
              refine HSm.out.mono ?_
              rintro e w7 ⟨rfl, n7, rfl⟩
              go_simp
              refine hK _ _ ?_
              clear hK K
              refine wpAny_take (i := 19) (v := ?v131) rfl (by kernel_rfl) (by kernel_rfl) (by kernel_rfl) (fun _ _ _ h => h) (Or.inl ⟨by kernel_rfl, ?h131⟩) ?_
              case h131 => intro w; go_simp; try with_reducible rfl
              go_simp
              refine wpAny_take (i := 20) (v := ?v132) rfl (by kernel_rfl) (by kernel_rfl) (by kernel_rfl) (fun _ _ _ h => h) (Or.inl ⟨by kernel_rfl, ?h132⟩) ?_
              case h132 => intro w; go_simp; try with_reducible rfl
              go_simp
              refine wpAny_done (by kernel_rfl) ?_ _
              go_wp2
              go_ret
              exact ⟨rfl, below_drewN B7.out n7⟩
  · go_enter Try.func6, Try.ntmps6
    go_wp2
    go_ret
    exact ⟨rfl, Below.refl _ _⟩
end Go.Proofs.Ytckjlonlkckhdaa
