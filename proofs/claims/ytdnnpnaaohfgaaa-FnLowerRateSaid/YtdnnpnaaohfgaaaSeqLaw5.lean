/-
  The laws of LowerRate and RaiseRate, walked: they return true for every code, and write into nothing that was there. No condition.
-/
import Derived.Test.YtdnnpnaaohfgaaaSeqLaw3
namespace Go.Proofs.Ytdnnpnaaohfgaaa
open Go.RowKit

theorem manyC_le (len N : Nat) : ∀ k, manyC len N k ≤ k * (len + N)
  | 0 => Nat.zero_le _
  | k + 1 => by
    have h := manyC_le len N k
    have h2 := lowC_le len N k
    rw [Nat.add_mul, Nat.one_mul]
    show manyC len N k + lowC len N k ≤ _
    omega
theorem low_el {xs : List Int} {N P j : Nat} (h : j < lowC xs.length N P) : el (low xs N P) j = el xs (P + j * N) := by
  unfold low; exact el_map h
theorem lowOr_one {xs : List Int} (h : seqOk xs = true) : lowOr xs 1 0 = xs := by
  have := lowOr_yes (N := 1) (P := 0) h (by omega) (by omega) (by omega)
  rw [low_one] at this
  exact this
theorem seqOk_rai {xs : List Int} {N : Nat} (h : seqOk xs = true) (h3 : xs.length * N ≤ 64) : seqOk (rai xs N) = true := by
  refine seqOk_good (fun i hi => ?_) (by rw [rai_length]; exact h3)
  rw [rai_length] at hi
  unfold rai
  rw [el_map hi]
  have := seqOk_in h (i / N)
  unfold raiN seqIn
  split <;> simp <;> omega
/-- What becomes of a raised sequence. -/
theorem rai_facts {xs : List Int} {n : Int} (h : (raiOr xs n).length ≠ 0) : ∃ N : Nat, n = (N : Int) ∧ 1 ≤ N ∧ N ≤ 8 ∧ xs.length ≤ 64 ∧ (raiOr xs n).length = N * xs.length ∧
    (∀ k : Nat, 1 ≤ k → k < N → lowOr (raiOr xs n) (N : Int) (k : Int) = zeros xs.length) ∧ lowOr (raiOr xs n) (N : Int) 0 = xs := by
  by_cases hc : seqOk xs = true ∧ 1 ≤ n ∧ n ≤ 8 ∧ (xs.length : Int) * n ≤ 64
  · obtain ⟨h1, h2, h3, h4⟩ := hc
    obtain ⟨N, rfl⟩ := Int.eq_ofNat_of_zero_le (show 0 ≤ n by omega)
    have h5 : xs.length * N ≤ 64 := by exact_mod_cast h4
    have hN1 : 1 ≤ N := by omega
    have hN8 : N ≤ 8 := by omega
    have e := raiOr_yes h1 hN1 hN8 h5
    have hs := seqOk_rai h1 h5
    refine ⟨N, rfl, hN1, hN8, seqOk_len h1, by rw [e, rai_length, Nat.mul_comm], fun k hk1 hk2 => ?_, ?_⟩
    · rw [e, lowOr_yes hs hN1 hN8 hk2, low_rai hN1 hk2, if_neg (by omega)]; rfl
    · have := lowOr_yes (P := 0) hs hN1 hN8 (by omega)
      rw [low_rai hN1 (by omega), if_pos rfl] at this
      rw [e]
      exact this
  · rw [raiOr_no hc] at h; exact absurd rfl h
set_option maxHeartbeats 4000000 in
theorem walkLowerRate (a : Option Addr) (c : Nat) (ds : List Int) (w : World) (hx : Ints .u8 w w.heap.size a ds) (hw : ∀ n ∈ ds, (Lit.int .u8 n).wf = true) (hc : ds.length ≤ c) (hcm : c ≤ maxLen) :
    Calls Try.prog 8 #[.slice a ds.length c] w fun e w' => e = .returned (.bool true) ∧ Below w.heap.size w w' := by
  have hb := isByte_of_wf hw
  clear hw
  by_cases hl : ds.length ≤ 1048576
  · go_enter Try.func8, Try.ntmps8
    go_wp2_with fail
    refine (drawLowerRate_any a c ds w hx hb hc hcm).mono ?_
    rintro e w1 ⟨xs, b0, c0, n, p, rfl, ⟨n1, n2⟩, ⟨p1, p2⟩, ⟨lx, _, _, i1⟩, bl⟩
    have X1 := Lib.hid i1
    have B1 := Lib.hid bl
    clear hx hb hc hcm i1 bl
    obtain ⟨S, hS⟩ : ∃ S, S = lowOr xs n p := ⟨_, rfl⟩
    have HS := Lib.hid hS
    have hSl : S.length ≤ 1048576 := by rw [hS]; exact lowOr_length xs n p
    have z3 : decide (S = S) = true := by simp
    clear hS
    go_wp2_with fail
    refine (lowerRate_any _ c0 xs n p w1 X1.out).mono ?_
    rw [← HS.out]
    rintro e w2 ⟨v2, cv2, rfl, _, o2, b2⟩
    have Y2 := Lib.hid (own_of_list o2).ints
    have X2 := Lib.hid (X1.out.next b2)
    have B2 := Lib.hid (Below.next B1.out (Nat.le_refl _) b2)
    clear o2 b2 X1 B1
    go_wp2_with fail
    refine (specLowerRate_any _ c0 xs n p w2 X2.out (by unfold maxLen; omega)).mono ?_
    rw [← HS.out]
    rintro e w3 ⟨v3, cv3, rfl, _, o3, b3⟩
    have U3 := Lib.hid (own_of_list o3).ints
    have Y3 := Lib.hid (Y2.out.next b3)
    have X3 := Lib.hid (X2.out.next b3)
    have B3 := Lib.hid (Below.next B2.out (Nat.le_refl _) b3)
    clear o3 b3 Y2 X2 B2
    go_wp2_with fail
    refine (sameInts_any v2 v3 cv2 cv3 w3.heap.size w3.heap.size S S w3 Y3.out U3.out hSl).mono ?_
    rintro e w4 ⟨rfl, n4, rfl⟩
    have B4 := Lib.hid (below_drewN B3.out n4)
    have Y4 : Hid (Ints .i64 (w3.drewN n4) (w3.drewN n4).heap.size v2 S) := Y3.out
    have X4 : Hid (Ints .i64 (w3.drewN n4) (w3.drewN n4).heap.size (some ⟨b0, 0, none⟩) xs) := X3.out
    clear Y3 X3 B3 U3
    generalize w3.drewN n4 = w4 at *
    have HAL := Lib.hid (alive_from B4.out)
    have hV := fun b h => seqV_is (some ⟨b0, 0, none⟩) c0 w4.heap.size xs w4 b X4.out h
    cases h1 : seqOk xs
    · have H1 := Lib.hid (hV false h1)
      have hS0 : S.length = 0 := by rw [HS.out, lowOr_no (by simp [h1])]; rfl
      have z4 : ((S.length : Int) == 0) = true := by simp [hS0]
      clear hV h1 hS0
      go_wp2_with fail
      refine H1.out.mono ?_
      rintro e w5 ⟨rfl, rfl⟩
      go_wp2_with fail
      refine HAL.out.mono ?_
      rintro e w8 ⟨rfl, b8⟩
      have B8 := Lib.hid b8
      clear b8
      go_wp2
      go_ret
      exact ⟨rfl, B8.out⟩
    · have H1 := Lib.hid (hV true h1)
      by_cases hn : n < 1 ∨ 8 < n
      · have hS0 : S.length = 0 := by rw [HS.out, lowOr_no (by omega)]; rfl
        have z4 : ((S.length : Int) == 0) = true := by simp [hS0]
        rcases hn with h2 | h2
        · clear hV h1 hS0
          go_wp2_with fail
          refine H1.out.mono ?_
          rintro e w5 ⟨rfl, rfl⟩
          go_wp2_with fail
          refine HAL.out.mono ?_
          rintro e w8 ⟨rfl, b8⟩
          have B8 := Lib.hid b8
          clear b8
          go_wp2
          go_ret
          exact ⟨rfl, B8.out⟩
        · have z5 : decide (n < 1) = false := by simp; omega
          clear hV h1 hS0
          go_wp2_with fail
          refine H1.out.mono ?_
          rintro e w5 ⟨rfl, rfl⟩
          go_wp2_with fail
          refine HAL.out.mono ?_
          rintro e w8 ⟨rfl, b8⟩
          have B8 := Lib.hid b8
          clear b8
          go_wp2
          go_ret
          exact ⟨rfl, B8.out⟩
      · obtain ⟨N, rfl⟩ := Int.eq_ofNat_of_zero_le (show 0 ≤ n by omega)
        have hN1 : 1 ≤ N := by omega
        have hN8 : N ≤ 8 := by omega
        have hlx := seqOk_len h1
        have HL := Lib.hid (fun (k : Nat) (hk : k < N) => lowOr_yes h1 hN1 hN8 hk)
        have H10 := Lib.hid (lowOr_one h1)
        have HM := Lib.hid (manyC_all (len := xs.length) hN1)
        have z5 : decide ((N : Int) < 1) = false := by simp; omega
        have z6 : decide ((8 : Int) < (N : Int)) = false := by simp; omega
        clear hV h1 hn HS z3 hSl
        go_wp2_with fail
        refine H1.out.mono ?_
        rintro e w5 ⟨rfl, rfl⟩
        go_wp2
        clear z5 z6 HAL H1 Y4
        go_loopw [7, 8] (fun s i wr => ∃ k : Nat, k ≤ N ∧ i = .int .i64 k ∧ s = .int .i64 (manyC xs.length N k : Nat) ∧ Below w4.heap.size w4 wr) (fun _ i _ => N - (intOf i).toNat)
        case atStart => exact ⟨0, Nat.zero_le _, rfl, rfl, Below.refl _ _⟩
        case round =>
          obtain ⟨k, hk, rfl, rfl, hbel⟩ := hrel
          have HB := Lib.hid hbel
          have XW := Lib.hid (X4.out.next hbel)
          clear hbel
          by_cases hlt : k < N
          · have h5 := lowerRate_any (some ⟨b0, 0, none⟩) c0 xs (N : Int) (k : Int) wr XW.out
            rw [HL.out k hlt] at h5
            have H5 := Lib.hid h5
            have hmb := manyC_le xs.length N k
            have hlc := lowC_le xs.length N k
            have hmb2 : k * (xs.length + N) ≤ 8 * 72 := Nat.mul_le_mul (by omega) (by omega)
            obtain ⟨M, hM⟩ : ∃ M, M = manyC xs.length N k := ⟨_, rfl⟩
            obtain ⟨L, hL⟩ : ∃ L, L = lowC xs.length N k := ⟨_, rfl⟩
            have hLl : (low xs N k).length = L := by rw [low_length, hL]
            have hME : M + L = manyC xs.length N (k + 1) := by rw [hM, hL]; rfl
            rw [← hM] at hmb ⊢
            rw [← hL] at hlc
            have HME := Lib.hid hME
            have HLL := Lib.hid hL
            have hs1 : -1000000000000 ≤ (M : Int) + (L : Int) ∧ (M : Int) + (L : Int) ≤ 1000000000000 := by omega
            have r1 := wrapS hs1
            have r1' := wrapS' hs1
            have hk8 : k ≤ 8 := by omega
            have hL72 : L ≤ 72 := by omega
            clear h5 hM hL hME hmb hlc hmb2 hs1
            go_wp2_with fail
            refine H5.out.mono ?_
            rintro e w6 ⟨v6, cv6, rfl, _, o6, b6⟩
            rw [hLl]
            have V6 := Lib.hid (own_of_list o6).ints
            have X6 := Lib.hid (XW.out.next b6)
            have B6 := Lib.hid (Below.next HB.out (Nat.le_refl _) b6)
            have HLl := Lib.hid hLl
            clear o6 b6 H5 hLl
            go_wp2
            clear r1 r1'
            go_loopw [10] (fun i wr' => ∃ j m : Nat, j ≤ L ∧ i = .int .i64 j ∧ wr' = w6.drewN m) (fun i _ => L - (intOf i).toNat)
            case atStart => exact ⟨0, 0, Nat.zero_le _, rfl, rfl⟩
            case round =>
              obtain ⟨j, m, hj, rfl, rfl⟩ := hrel
              by_cases hjl : j < L
              · have hjc : j < lowC xs.length N k := by rw [← HLL.out]; exact hjl
                have hpos := (lowC_lt (len := xs.length) hlt).1 hjc
                obtain ⟨bb, off, rfl, _, hcc⟩ := V6.out.at_ (i := j) (by rw [HLl.out]; exact hjl)
                obtain ⟨g, hg⟩ : ∃ g, g = k + j * N := ⟨_, rfl⟩
                rw [low_el hjc, ← hg] at hcc
                rw [← hg] at hpos
                obtain ⟨bx, ox, ex, _, hcx⟩ := X6.out.at_ hpos
                injection ex with ex
                injection ex with e1 e2
                subst e1 e2
                rw [Nat.zero_add] at hcx
                obtain ⟨x, hx⟩ : ∃ x, x = el xs g := ⟨_, rfl⟩
                rw [← hx] at hcc hcx
                obtain ⟨d, hd⟩ : ∃ d, d = j * N := ⟨_, rfl⟩
                have hdg : d + k = g := by rw [hg, hd, Nat.add_comm]
                have hdb : d ≤ 72 * 8 := by rw [hd]; exact Nat.mul_le_mul (by omega) hN8
                have z7 : (x != x) = false := by simp
                have hs1 : -1000000000000 ≤ (d : Int) ∧ (d : Int) ≤ 1000000000000 := by omega
                have hs2 : -1000000000000 ≤ (g : Int) ∧ (g : Int) ≤ 1000000000000 := by omega
                have hdgi : (d : Int) + (k : Int) = (g : Int) := by omega
                have r1 : IntKind.i64.wrap ((j : Int) * (N : Int)) = (d : Int) := by rw [← Int.natCast_mul, ← hd]; exact wrapS hs1
                have r1' : wrap64 ((j : Int) * (N : Int)) = (d : Int) := by rw [← Int.natCast_mul, ← hd]; exact wrapS' hs1
                have r2 : IntKind.i64.wrap ((d : Int) + (k : Int)) = (g : Int) := by rw [hdgi]; exact wrapS hs2
                have r2' : wrap64 ((d : Int) + (k : Int)) = (g : Int) := by rw [hdgi]; exact wrapS' hs2
                clear hjc hg hx hd hdg hdb hs1 hs2 hdgi
                go_wp2
                go_quiet (fail)
                go_wp2
                go_roundw
                case rel => exact ⟨j + 1, _, by omega, by go_num, rfl⟩
                case measure => simp [intOf]; omega
              · go_wp2
                go_roundw
                case rel => exact ⟨k + 1, by omega, by go_num, by rw [← HME.out]; go_num, below_drewN B6.out m⟩
                case measure => simp [intOf]; omega
          · obtain rfl : k = N := by omega
            have z7 : (((manyC xs.length k k : Nat) : Int) == (xs.length : Int)) = true := by rw [HM.out]; simp
            have h5 := lowerRate_any (some ⟨b0, 0, none⟩) c0 xs 1 0 wr XW.out
            rw [H10.out] at h5
            have H5 := Lib.hid h5
            have z8 : decide (xs = xs) = true := by simp
            clear h5
            go_wp2_with fail
            refine H5.out.mono ?_
            rintro e w6 ⟨v6, cv6, rfl, _, o6, b6⟩
            have V6 := Lib.hid (own_of_list o6).ints
            have X6 := Lib.hid (XW.out.next b6)
            have B6 := Lib.hid (Below.next HB.out (Nat.le_refl _) b6)
            clear o6 b6 H5
            go_wp2_with fail
            refine (sameInts_any v6 (some ⟨b0, 0, none⟩) cv6 c0 w6.heap.size w6.heap.size xs xs w6 V6.out X6.out (Nat.le_trans hlx (by decide))).mono ?_
            rintro e w10 ⟨rfl, n10, rfl⟩
            go_wp2
            go_ret
            exact ⟨rfl, Below.next B4.out (Nat.le_refl _) (below_drewN B6.out n10)⟩
  · go_enter Try.func8, Try.ntmps8
    go_wp2
    go_ret
    exact ⟨rfl, Below.refl _ _⟩
set_option maxHeartbeats 4000000 in
theorem walkRaiseRate (a : Option Addr) (c : Nat) (ds : List Int) (w : World) (hx : Ints .u8 w w.heap.size a ds) (hw : ∀ n ∈ ds, (Lit.int .u8 n).wf = true) (hc : ds.length ≤ c) (hcm : c ≤ maxLen) :
    Calls Try.prog 7 #[.slice a ds.length c] w fun e w' => e = .returned (.bool true) ∧ Below w.heap.size w w' := by
  have hb := isByte_of_wf hw
  clear hw
  by_cases hl : ds.length ≤ 1048576
  · go_enter Try.func7, Try.ntmps7
    go_wp2_with fail
    refine (drawRaiseRate_any a c ds w hx hb hc hcm).mono ?_
    rintro e w1 ⟨xs, b0, c0, n, rfl, ⟨n1, n2⟩, ⟨lx, _, _, i1⟩, bl⟩
    have X1 := Lib.hid i1
    have B1 := Lib.hid bl
    clear hx hb hc hcm i1 bl
    obtain ⟨S, hS⟩ : ∃ S, S = raiOr xs n := ⟨_, rfl⟩
    have HS := Lib.hid hS
    have hSl : S.length ≤ 1048576 := by rw [hS]; exact raiOr_length xs n
    have z3 : decide (S = S) = true := by simp
    clear hS
    go_wp2_with fail
    refine (raiseRate_any _ c0 xs n w1 X1.out).mono ?_
    rw [← HS.out]
    rintro e w2 ⟨v2, cv2, rfl, _, o2, b2⟩
    have Y2 := Lib.hid (own_of_list o2).ints
    have X2 := Lib.hid (X1.out.next b2)
    have B2 := Lib.hid (Below.next B1.out (Nat.le_refl _) b2)
    clear o2 b2 X1 B1
    go_wp2_with fail
    refine (specRaiseRate_any _ c0 xs n w2 X2.out (by unfold maxLen; omega)).mono ?_
    rw [← HS.out]
    rintro e w3 ⟨v3, cv3, rfl, _, o3, b3⟩
    have U3 := Lib.hid (own_of_list o3).ints
    have Y3 := Lib.hid (Y2.out.next b3)
    have X3 := Lib.hid (X2.out.next b3)
    have B3 := Lib.hid (Below.next B2.out (Nat.le_refl _) b3)
    clear o3 b3 Y2 X2 B2
    go_wp2_with fail
    refine (sameInts_any v2 v3 cv2 cv3 w3.heap.size w3.heap.size S S w3 Y3.out U3.out hSl).mono ?_
    rintro e w4 ⟨rfl, n4, rfl⟩
    have B4 := Lib.hid (below_drewN B3.out n4)
    have Y4 : Hid (Ints .i64 (w3.drewN n4) (w3.drewN n4).heap.size v2 S) := Y3.out
    have X4 : Hid (Ints .i64 (w3.drewN n4) (w3.drewN n4).heap.size (some ⟨b0, 0, none⟩) xs) := X3.out
    clear Y3 X3 B3 U3
    generalize w3.drewN n4 = w4 at *
    have HAL := Lib.hid (alive_from B4.out)
    by_cases hS0 : S.length = 0
    · have z4 : ((S.length : Int) == 0) = true := by simp [hS0]
      clear hS0
      go_wp2_with fail
      refine HAL.out.mono ?_
      rintro e w8 ⟨rfl, b8⟩
      have B8 := Lib.hid b8
      clear b8
      go_wp2
      go_ret
      exact ⟨rfl, B8.out⟩
    · have z4 : ((S.length : Int) == 0) = false := by rw [beq_eq_false_iff_ne]; omega
      obtain ⟨N, rfl, hN1, hN8, hlx, f1, f2, f3⟩ := rai_facts (xs := xs) (n := n) (by rw [← HS.out]; exact hS0)
      rw [← HS.out] at f1 f2 f3
      have F1 := Lib.hid f1
      have F2 := Lib.hid f2
      have F3 := Lib.hid f3
      have HX := Lib.hid hlx
      clear hS0 f1 f2 f3 z3 HAL
      go_wp2
      go_loopw [6] (fun i wr => ∃ k : Nat, 1 ≤ k ∧ k ≤ N ∧ i = .int .i64 k ∧ Below w4.heap.size w4 wr) (fun i _ => N - (intOf i).toNat)
      case atStart => exact ⟨1, Nat.le_refl _, hN1, rfl, Below.refl _ _⟩
      case round =>
        obtain ⟨k, hk1, hk2, rfl, hbel⟩ := hrel
        have HB := Lib.hid hbel
        have XW := Lib.hid (X4.out.next hbel)
        have YW := Lib.hid (Y4.out.next hbel)
        have hsz : w4.heap.size ≤ wr.heap.size := hbel.size
        clear hbel
        by_cases hlt : k < N
        · have HC := Lib.hid (fun (W : World) (hY : Ints .i64 W W.heap.size v2 S) => show Calls Try.prog 29 #[.slice v2 S.length cv2, .int .i64 (N : Int), .int .i64 (k : Int)] W (ListPostC (zeros xs.length) W) by
            have h := lowerRate_any v2 cv2 S (N : Int) (k : Int) W hY
            rwa [F2.out k hk1 hlt] at h)
          have hmk := run_make_row' (P := Try.prog) 23 3 (.int .i64 0) 8 Try.underlying23 Try.infoInt rfl .i64 .i64 xs.length (by omega) (by omega)
          have zz : decide (zeros xs.length = zeros xs.length) = true := by simp
          go_wp2
          refine wp_region_any (by kernel_rfl) ?_
          change wpAny _ _ _ _ _ _ _ (World.drew _)
          have YD : Hid (Ints .i64 wr.drew wr.drew.heap.size v2 S) := YW.out
          have BD := Lib.hid HB.out.drew
          refine wpAny_take (i := 0) (v := ?v0) rfl (by kernel_rfl) (by kernel_rfl) (by kernel_rfl) (fun _ _ _ h => h) (Or.inl ⟨by kernel_rfl, ?h0⟩) ?_
          case h0 => intro w; go_simp; try with_reducible rfl
          go_simp
          refine wpAny_take (i := 1) (v := ?v1) rfl (by kernel_rfl) (by kernel_rfl) (by kernel_rfl) (fun _ _ _ h => h) (Or.inl ⟨by kernel_rfl, ?h1⟩) ?_
          case h1 => intro w; go_simp; try with_reducible rfl
          go_simp
          refine wpAny_take (i := 2) (v := ?v2) rfl (by kernel_rfl) (by kernel_rfl) (by kernel_rfl) (fun _ _ _ h => h) (Or.inl ⟨by kernel_rfl, ?h2⟩) ?_
          case h2 => intro w; go_simp; try with_reducible rfl
          go_simp
          refine wpAny_take (i := 4) (v := ?v4) rfl (by kernel_rfl) (by kernel_rfl) (by kernel_rfl) (fun _ _ _ h => h) (Or.inl ⟨by kernel_rfl, ?h4⟩) ?_
          case h4 => intro w; go_simp; try with_reducible rfl
          go_simp
          refine wpAny_take (i := 5) (v := ?v5) rfl (by kernel_rfl) (by kernel_rfl) (by kernel_rfl) (fun _ _ _ h => h) (Or.inl ⟨by kernel_rfl, ?h5⟩) ?_
          case h5 => intro w; go_simp; try with_reducible rfl
          go_simp
          refine wpAny_ready (rs := [3, 6]) (by kernel_rfl) (by simp) (AllReady.cons rfl (fun K hK => ?_) (AllReady.cons rfl (fun K hK => ?_) AllReady.nil))
          · have hmk0 := hmk
            clear hmk
            go_simp
            refine (HC.out _ (YD.out)).mono ?_
            rintro e w6 ⟨v6, cv6, rfl, _, o6, b6⟩
            rw [zeros_length]
            have V6 := Lib.hid (own_of_list o6).ints
            have B6 := Lib.hid (Below.next (w' := wr.drew) BD.out (Nat.le_refl _) b6)
            clear o6 b6
            go_simp
            refine hK _ _ ?_
            clear hK K
            have hmk := hmk0
            clear hmk0
            refine wpAny_ready (rs := [6]) (by kernel_rfl) (by simp) (AllReady.cons rfl (fun K hK => ?_) AllReady.nil)
            go_simp
            refine hK _ _ ?_
            clear hK K
            have hsm := sameInts_any v6 (some ⟨w6.heap.size, 0, none⟩) cv6 xs.length (w6.alloc (.cells (madeCells #[.int .i64 0] xs.length) 3)).heap.size (w6.alloc (.cells (madeCells #[.int .i64 0] xs.length) 3)).heap.size (zeros xs.length) (zeros xs.length) (w6.alloc (.cells (madeCells #[.int .i64 0] xs.length) 3)) (V6.out.next (alloc_below w6 _)) ((zeros_ints w6 xs.length).more (by simp)) (by rw [zeros_length]; omega)
            rw [zeros_length] at hsm
            have HSm := Lib.hid hsm
            have B7 := Lib.hid (B6.out.alloc B6.out.size (.cells (madeCells #[.int .i64 0] xs.length) 3))
            clear hsm hmk
            refine wpAny_ready (rs := [7]) (by kernel_rfl) (by simp) (AllReady.cons rfl (fun K hK => ?_) AllReady.nil)
            go_simp
            refine HSm.out.mono ?_
            rintro e w7 ⟨rfl, n7, rfl⟩
            go_simp
            refine hK _ _ ?_
            clear hK K
            refine wpAny_take (i := 8) (v := ?v8) rfl (by kernel_rfl) (by kernel_rfl) (by kernel_rfl) (fun _ _ _ h => h) (Or.inl ⟨by kernel_rfl, ?h8⟩) ?_
            case h8 => intro w; go_simp; try with_reducible rfl
            go_simp
            refine wpAny_done (by kernel_rfl) ?_ _
            go_wp2
            go_roundw
            case rel => exact ⟨k + 1, by omega, by omega, by go_num, below_drewN B7.out n7⟩
            case measure => simp [intOf]; omega
          · go_simp
            refine hK _ _ ?_
            clear hK K
            refine wpAny_ready (rs := [3]) (by kernel_rfl) (by simp) (AllReady.cons rfl (fun K hK => ?_) AllReady.nil)
            clear hmk
            have hmk := True.intro
            go_simp
            refine (HC.out _ (Ints.next (w := wr.drew) YD.out (alloc_below wr.drew _))).mono ?_
            rintro e w6 ⟨v6, cv6, rfl, _, o6, b6⟩
            rw [zeros_length]
            have V6 := Lib.hid (own_of_list o6).ints
            have Z6 := Lib.hid (Ints.next (w := wr.drew.alloc (.cells (madeCells #[.int .i64 0] xs.length) 3)) ((zeros_ints wr.drew xs.length).more (by simp)) b6)
            have B6 := Lib.hid (Below.next (w' := wr.drew.alloc (.cells (madeCells #[.int .i64 0] xs.length) 3)) (BD.out.alloc BD.out.size _) (Nat.le_refl _) b6)
            clear o6 b6
            go_simp
            refine hK _ _ ?_
            clear hK K
            have hsm := sameInts_any v6 (some ⟨wr.drew.heap.size, 0, none⟩) cv6 xs.length w6.heap.size w6.heap.size (zeros xs.length) (zeros xs.length) w6 V6.out Z6.out (by rw [zeros_length]; omega)
            rw [zeros_length] at hsm
            have HSm := Lib.hid hsm
            have B7 := Lib.hid (B6.out)
            clear hsm hmk
            refine wpAny_ready (rs := [7]) (by kernel_rfl) (by simp) (AllReady.cons rfl (fun K hK => ?_) AllReady.nil)
            go_simp
            refine HSm.out.mono ?_
            rintro e w7 ⟨rfl, n7, rfl⟩
            go_simp
            refine hK _ _ ?_
            clear hK K
            refine wpAny_take (i := 8) (v := ?v8) rfl (by kernel_rfl) (by kernel_rfl) (by kernel_rfl) (fun _ _ _ h => h) (Or.inl ⟨by kernel_rfl, ?h8⟩) ?_
            case h8 => intro w; go_simp; try with_reducible rfl
            go_simp
            refine wpAny_done (by kernel_rfl) ?_ _
            go_wp2
            go_roundw
            case rel => exact ⟨k + 1, by omega, by omega, by go_num, below_drewN B7.out n7⟩
            case measure => simp [intOf]; omega
        · obtain rfl : k = N := by omega
          have h5 := lowerRate_any v2 cv2 S (k : Int) 0 wr YW.out
          rw [F3.out] at h5
          have H5 := Lib.hid h5
          have z8 : decide (xs = xs) = true := by simp
          have hSn : (S.length : Int) = (k : Int) * (xs.length : Int) := by rw [F1.out]; exact Int.natCast_mul _ _
          obtain ⟨M, hM⟩ : ∃ M : Int, M = (S.length : Int) := ⟨_, rfl⟩
          have hMb : -1000000000000 ≤ M ∧ M ≤ 1000000000000 := by omega
          have z9 : ((S.length : Int) == M) = true := by rw [hM]; simp
          have hxl : xs.length ≤ 1048576 := Nat.le_trans HX.out (by decide)
          have r1 : IntKind.i64.wrap ((k : Int) * (xs.length : Int)) = M := by rw [← hSn, ← hM]; exact wrapS hMb
          have r1' : wrap64 ((k : Int) * (xs.length : Int)) = M := by rw [← hSn, ← hM]; exact wrapS' hMb
          clear h5 hSn hM hMb
          go_wp2_with fail
          refine H5.out.mono ?_
          rintro e w6 ⟨v6, cv6, rfl, _, o6, b6⟩
          have V6 := Lib.hid (own_of_list o6).ints
          have X6 := Lib.hid (XW.out.next b6)
          have B6 := Lib.hid (Below.next HB.out (Nat.le_refl _) b6)
          clear o6 b6 H5
          go_wp2_with fail
          refine (sameInts_any v6 (some ⟨b0, 0, none⟩) cv6 c0 w6.heap.size w6.heap.size xs xs w6 V6.out X6.out hxl).mono ?_
          rintro e w10 ⟨rfl, n10, rfl⟩
          go_wp2
          go_ret
          exact ⟨rfl, Below.next B4.out (Nat.le_refl _) (below_drewN B6.out n10)⟩
  · go_enter Try.func7, Try.ntmps7
    go_wp2
    go_ret
    exact ⟨rfl, Below.refl _ _⟩
end Go.Proofs.Ytdnnpnaaohfgaaa
