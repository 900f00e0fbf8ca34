/-
  The law of bits with a check that are coded in blocks, walked: it returns true for every two codes, and writes into nothing that was there. Condition: the program's tables lie in their variables.
-/
import Derived.Test.YtflplihhakepfaaDoorNibDraw2
import Derived.Test.YtflplihhakepfaaDoorNibMath2
import Derived.Test.YtflplihhakepfaaDoorNibLaw1
import Derived.Test.YtflplihhakepfaaDoorPass
import Derived.Test.YtflplihhakepfaaDoorModels2
namespace Go.Proofs.YtflplihhakepfaaDoor
open Go.RowKit

theorem app_pass {g : Int} {xs : List Int} (h : appOr g xs ≠ []) : passes g (appOr g xs) = true := by
  cases hok : appOk g xs
  · simp [appOr, hok] at h
  · have h1 : chkOk g xs = true ∧ xs.length + deg g ≤ 1024 := by simpa [appOk] using hok
    obtain ⟨h2, h3⟩ := chkOk_parts h1.1
    have e : appOr g xs = xs ++ chk g xs := by simp [appOr, hok]
    rw [e]
    exact passes_append h2 h3 h1.2
theorem app_len (g : Int) (xs : List Int) : (appOr g xs).length ≤ 1024 := by
  unfold appOr; split
  · next h =>
    have h1 : chkOk g xs = true ∧ xs.length + deg g ≤ 1024 := by simpa [appOk] using h
    rw [List.length_append, chk_length]; omega
  · simp
set_option maxHeartbeats 2000000 in
theorem walkCheckedBlocks (a : Option Addr) (c : Nat) (ds : List Int) (a' : Option Addr) (c' : Nat) (es : List Int) (w : World)
    (hx : Ints .u8 w w.heap.size a ds) (hw : ∀ n ∈ ds, (Lit.int .u8 n).wf = true) (hc : ds.length ≤ c) (hcm : c ≤ maxLen)
    (hy : Ints .u8 w w.heap.size a' es) (hw' : ∀ n ∈ es, (Lit.int .u8 n).wf = true) (_hc' : es.length ≤ c') (_hcm' : c' ≤ maxLen) (hS : SynTab w) (hC : CorTab w) :
    Calls Tryd.prog 8 #[.slice a ds.length c, .slice a' es.length c'] w fun e w' => e = .returned (.bool true) ∧ Below w.heap.size w w' := by
  have hb := isByte_of_wf hw
  have HB' := Lib.hid (isByte_of_wf hw')
  have HY := Lib.hid hy
  have HT := Lib.hid hS
  have HC := Lib.hid hC
  clear hw hw' hy _hc' _hcm' hS hC
  by_cases hl : ds.length ≤ 1048576
  · by_cases hl' : es.length ≤ 1048576
    · go_enter Tryd.func8, Tryd.ntmps8
      go_wp2_with fail
      refine (drawEncodeBlocks_any a c ds w hx hb hc hcm).mono ?_
      rintro e w1 ⟨xs, a1, c1, rfl, ⟨l1, l2, l3⟩, i1, b1⟩
      have I1 := Lib.hid i1
      have B1 := Lib.hid b1
      have L1 := Lib.hid (show xs.length ≤ maxLen from Nat.le_trans l2 l3)
      clear hx hb hc hcm i1 b1 l3 l2
      obtain ⟨Y, hY⟩ : ∃ Y, Y = appOr 19 xs := ⟨_, rfl⟩
      have HYe := Lib.hid hY
      have hYl : Y.length ≤ 1024 := by rw [hY]; exact app_len 19 xs
      have HYl := Lib.hid (show Y.length ≤ maxLen by unfold maxLen; omega)
      obtain ⟨X, hX⟩ : ∃ X, X = encB Y := ⟨_, rfl⟩
      have HXe := Lib.hid hX
      have hXl : X.length ≤ 896 := by rw [hX]; exact encB_len Y
      have z3 : decide (X = X) = true := by simp
      clear hY hX
      go_wp2_with fail
      refine (checkAppend_any a1 c1 xs 19 w1 I1.out L1.out).mono ?_
      rw [← HYe.out]
      rintro e w2 ⟨v2, cv2, rfl, r2, o2, b2⟩
      have V2 := Lib.hid (own_of_list o2).ints
      have R2 := Lib.hid r2
      have I2 := Lib.hid (I1.out.next b2)
      have B2 := Lib.hid (Below.next B1.out (Nat.le_refl _) b2)
      clear o2 b2 I1 B1 r2
      go_wp2_with fail
      refine (encodeBlocks_any v2 cv2 Y w2 V2.out R2.out.1).mono ?_
      rw [← HXe.out]
      rintro e w3 ⟨v3, cv3, rfl, r3, o3, b3⟩
      have O3 := Lib.hid o3
      have R3 := Lib.hid r3
      have I3 := Lib.hid (I2.out.next b3)
      have B3 := Lib.hid (Below.next B2.out (Nat.le_refl _) b3)
      have s02 : w.heap.size ≤ w2.heap.size := B2.out.size
      clear o3 b3 I2 B2 r3 V2
      go_wp2_with fail
      refine (specCheckAppend_any a1 c1 xs 19 w3 I3.out L1.out).mono ?_
      rw [← HYe.out]
      rintro e w4 ⟨v4, cv4, rfl, r4, o4, b4⟩
      have V4 := Lib.hid (own_of_list o4).ints
      have R4 := Lib.hid r4
      have X4 := Lib.hid ((own_of_list O3.out).next b4)
      have B4 := Lib.hid (Below.next B3.out (Nat.le_refl _) b4)
      have s34 : w3.heap.size ≤ w4.heap.size := b4.size
      clear o4 b4 I3 B3 r4 O3
      go_wp2_with fail
      refine (specEncodeBlocks_any v4 cv4 Y w4 V4.out R4.out.1 HYl.out).mono ?_
      rw [← HXe.out]
      rintro e w5 ⟨v5, cv5, rfl, _, o5, b5⟩
      have U5 := Lib.hid (own_of_list o5).ints
      have X5 := Lib.hid (X4.out.next b5)
      have B5 := Lib.hid (Below.next B4.out (Nat.le_refl _) b5)
      have s45 : w4.heap.size ≤ w5.heap.size := b5.size
      clear o5 b5 X4 B4 V4
      go_wp2_with fail
      refine (sameInts_any v3 v5 cv3 cv5 w3.heap.size w5.heap.size X X w5 X5.out.ints U5.out (by omega)).mono ?_
      rintro e w6 ⟨rfl, n6, rfl⟩
      have B6 := Lib.hid (below_drewN B5.out n6)
      have X6 : Hid (Own .i64 3 (w5.drewN n6) w2.heap.size w3.heap.size v3 X) := X5.out
      clear X5 U5 B5 z3
      generalize w5.drewN n6 = w7 at *
      by_cases hX0 : X = []
      · subst hX0
        go_wp2
        refine wp_loop_rounds 1 ?_
        rw [rounds_succ]
        go_wp2_with fail
        refine (alive_any w7).mono ?_
        rintro e w8 ⟨rfl, b8⟩
        have B8 := Lib.hid (Below.next B6.out (Nat.le_refl _) b8)
        clear b8
        go_wp2
        go_ret
        exact ⟨rfl, B8.out⟩
      · obtain ⟨b, cap, f, rfl, hb1, hb2, hcp, hrw, hf⟩ := X6.out hX0
        have hok : blkOk 4 Y = true := by
          cases h : blkOk 4 Y
          · exact absurd (HXe.out.trans (encB_no h)) hX0
          · rfl
        obtain ⟨hbo, hmod, hlen⟩ := blkOk_parts hok
        have hbi := bitsOk_all hbo
        obtain ⟨N, hN⟩ : ∃ N, N = Y.length / 4 := ⟨_, rfl⟩
        have hYN : Y.length = 4 * N := by omega
        have hXN : X = encK Y N := by rw [HXe.out, encB_yes hok, hN]
        have hXn : X.length = 7 * N := by rw [hXN, encK_length]
        have hN0 : 1 ≤ N := by
          rcases Nat.eq_zero_or_pos N with h0 | h0
          · exact absurd (List.eq_nil_of_length_eq_zero (by omega)) hX0
          · exact h0
        have hN128 : N ≤ 128 := by omega
        have HP := Lib.hid (show passes 19 Y = true by
          rw [HYe.out]
          refine app_pass fun e => ?_
          rw [← HYe.out] at e
          rw [e] at hYN
          simp at hYN
          omega)
        have HRow := Lib.hid (show RowOf w7 b cap X from ⟨f, hrw, hcp, hf⟩)
        have HH := Lib.hid (show Hurt Y X N 0 by rw [hXN]; exact hurt_start hbi (by omega))
        have HEnd := Lib.hid (fun (L : List Int) (h : Hurt Y L N N) => hurt_end h hbi hYN hN128)
        obtain ⟨n, hn⟩ : ∃ n, n = X.length := ⟨_, rfl⟩
        have hn7 : n = 7 * N := by omega
        have hcv3 : n ≤ cv3 := by have := R3.out.1; omega
        rw [← hn]
        have HYN := Lib.hid hYN
        have HN7 := Lib.hid hn7
        clear hn7 hrw hcp hf hok hbo hmod hlen hbi hN hXN hXn hX0 hn X6 HXe HYe hXl hYN
        go_wp2
        go_loopw [7] (fun i wr => ∃ (j k : Nat) (L : List Int), (j = 7 * k ∧ k ≤ N) ∧ i = .int .i64 j ∧ Hurt Y L N k ∧ RowOf wr b cap L ∧ Below w.heap.size w wr) (fun i _ => n - (intOf i).toNat)
        case atStart => exact ⟨0, 0, X, ⟨rfl, Nat.zero_le _⟩, rfl, HH.out, HRow.out, B6.out⟩
        case round =>
          obtain ⟨j, k, L, ⟨hj, hk⟩, rfl, hh, hrow, hbe⟩ := hrel
          have HHu := Lib.hid hh
          have HRo := Lib.hid hrow
          have HBe := Lib.hid hbe
          clear hh hrow hbe
          have hn7 := HN7.out
          by_cases hlt : j < n
          · have hkN : k < N := by omega
            have hk128 : k < 128 := by omega
            have hdiv : (j : Int) / 7 = (k : Int) := by omega
            have step : ∀ p, p < 7 → ∃ x, (0 ≤ x ∧ x ≤ 1) ∧ wr.cell? ⟨b, j + p, none⟩ = some (.int .i64 x) ∧ wr.frozen? ⟨b, j + p, none⟩ = false ∧
                ∃ L', Hurt Y L' N (k + 1) ∧ RowOf (wr.setCell ⟨b, j + p, none⟩ (.int .i64 (1 - x))) b cap L' ∧ Below w.heap.size w (wr.setCell ⟨b, j + p, none⟩ (.int .i64 (1 - x))) := fun p hp => by
              have hL := HHu.out.1
              have hjp : j + p < L.length := by omega
              have h01 := all_bit HHu.out.2.1 hjp
              refine ⟨el L (j + p), by omega, HRo.out.cell hjp, HRo.out.frozen _, _, ?_, HRo.out.put, HBe.out.setCell (p := ⟨b, j + p, none⟩) (by show w.heap.size ≤ b; omega) _⟩
              rw [hj]
              exact hurt_step HHu.out hkN hp
            have HJ := Lib.hid (show j + 7 = 7 * (k + 1) ∧ k + 1 ≤ N from ⟨by omega, by omega⟩)
            by_cases hke : k < es.length
            · obtain ⟨b', off', rfl, hb', hc'⟩ := (HY.out.below HBe.out).at_ hke
              have hby := HB'.out _ (el_mem (xs := es) hke)
              obtain ⟨d, hd⟩ : ∃ d : Int, d = el es k := ⟨_, rfl⟩
              rw [← hd] at hc' hby
              have hd0 : 0 ≤ d := hby.1
              have hd1 : d < 256 := hby.2
              obtain ⟨p, hp⟩ : ∃ p : Nat, (p : Int) = d % 7 := ⟨(d % 7).toNat, by omega⟩
              have hp7 : p < 7 := by omega
              obtain ⟨x, ⟨hx0, hx1⟩, hcx, hfx, L', hs1, hs2, hs3⟩ := step p hp7
              obtain ⟨q, hq⟩ : ∃ q, q = j + p := ⟨_, rfl⟩
              rw [← hq] at hcx hfx hs2 hs3
              have H1 := Lib.hid hs1
              have H2 := Lib.hid hs2
              have H3 := Lib.hid hs3
              have hsum : (j : Int) + d % 7 = (q : Int) := by omega
              have hqn : q < n := by omega
              clear step hs1 hs2 hs3 hd hby hp hq hp7 hj hk hkN hn7
              go_wp2
              go_roundw
              case rel => exact ⟨j + 7, k + 1, L', HJ.out, by go_num, H1.out, H2.out, H3.out⟩
              case measure => simp [intOf]; omega
            · obtain ⟨x, ⟨hx0, hx1⟩, hcx, hfx, L', hs1, hs2, hs3⟩ := step 0 (by omega)
              rw [Nat.add_zero] at hcx hfx hs2 hs3
              have H1 := Lib.hid hs1
              have H2 := Lib.hid hs2
              have H3 := Lib.hid hs3
              clear step hs1 hs2 hs3 hj hk hkN hn7
              go_wp2
              go_roundw
              case rel => exact ⟨j + 7, k + 1, L', HJ.out, by go_num, H1.out, H2.out, H3.out⟩
              case measure => simp [intOf]; omega
          · obtain rfl : k = N := by omega
            obtain ⟨e1, e2, e3⟩ := HEnd.out L HHu.out
            have hL := HHu.out.1
            have h8 := decodeBlocks_any (some ⟨b, 0, none⟩) cv3 L wr HRo.out.ints (by omega) (HT.out.next HBe.out) (HC.out.next HBe.out)
            unfold DecBPost at h8
            rw [e2, e3, hL, ← hn7] at h8
            have H8 := Lib.hid h8
            have hdiv : (n : Int) / 7 = (k : Int) := by omega
            have hne : ((n : Int) == 0) = false := by rw [beq_eq_false_iff_ne]; omega
            have z4 : ((k : Int) == (k : Int)) = true := by simp
            clear e1 e2 e3 hL h8 hj hk hn7
            go_wp2_with fail
            with_reducible refine H8.out.mono ?_
            rintro e w8 ⟨v8, cv8, rfl, r8, o8, b8⟩
            have V8 := Lib.hid (own_of_list o8).ints
            have B8 := Lib.hid (Below.next HBe.out (Nat.le_refl _) b8)
            have h9 := checkPasses_any v8 cv8 Y 19 w8 V8.out r8.1 r8.2
            rw [HP.out] at h9
            have H9 := Lib.hid h9
            clear o8 b8 r8 h9 H8
            go_wp2_with fail
            refine H9.out.mono ?_
            rintro e w9 ⟨rfl, b9⟩
            have B9 := Lib.hid (Below.next B8.out (Nat.le_refl _) b9)
            clear b9
            go_wp2
            go_ret
            exact ⟨rfl, B9.out⟩
    · go_enter Tryd.func8, Tryd.ntmps8
      go_wp2
      go_ret
      exact ⟨rfl, Below.refl _ _⟩
  · go_enter Tryd.func8, Tryd.ntmps8
    go_wp2
    go_ret
    exact ⟨rfl, Below.refl _ _⟩
end Go.Proofs.YtflplihhakepfaaDoor
