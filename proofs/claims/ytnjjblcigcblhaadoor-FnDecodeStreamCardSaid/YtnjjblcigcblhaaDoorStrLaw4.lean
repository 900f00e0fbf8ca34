/-
  The law of the number of errors, walked: few changes lead to few errors: it returns true for every code, and writes into nothing that was there. Condition: the program's two tables of the stream code lie in their variables.
-/
import Derived.Test.YtnjjblcigcblhaaDoorStrLaw1
namespace Go.Proofs.YtnjjblcigcblhaaDoor
open Go.RowKit

theorem absNear_any (m n : Nat) (w : World) (h1 : m ≤ n + 1) (h2 : n ≤ m + 1) : Calls Tryd.prog 25 #[.int .i64 ((m : Int) - (n : Int))] w fun e w' => (∃ k : Int, k ≤ 1 ∧ -1 ≤ k ∧ e = .returned (.int .i64 k)) ∧ w = w' := by
  by_cases h : (m : Int) - (n : Int) < 0
  · go_enter Tryd.func25, Tryd.ntmps25
    go_wp2
    go_ret
    exact ⟨⟨_, by omega, by omega, rfl⟩, rfl⟩
  · go_enter Tryd.func25, Tryd.ntmps25
    go_wp2
    go_ret
    exact ⟨⟨_, by omega, by omega, rfl⟩, rfl⟩
theorem onesK_zero (xs : List Int) : onesK xs 0 = 0 := rfl
theorem codedOk_err {xs : List Int} (h : codedOk xs = true) : errS (prs xs) ≤ 84 := by
  have h1 := err_ones h
  have h2 := onesK_le xs xs.length
  have := codedOk_parts h
  omega
set_option maxHeartbeats 2000000 in
theorem walkStreamErrors (a : Option Addr) (c : Nat) (ds : List Int) (w : World) (hx : Ints .u8 w w.heap.size a ds) (hw : ∀ n ∈ ds, (Lit.int .u8 n).wf = true) (hc : ds.length ≤ c) (hcm : c ≤ maxLen) (hT : StrTabs w) :
    Calls Tryd.prog 5 #[.slice a ds.length c] w fun e w' => e = .returned (.bool true) ∧ Below w.heap.size w w' := by
  have hb := isByte_of_wf hw
  have HT := Lib.hid hT
  clear hw hT
  by_cases hl : ds.length ≤ 1048576
  · go_enter Tryd.func5, Tryd.ntmps5
    go_wp2_with fail
    refine (drawStreamErrors_any a c ds w hx hb hc hcm).mono ?_
    rintro e w1 ⟨xs, a1, c1, rfl, ⟨l1, l2, l3⟩, i1, b1⟩
    have X1 := Lib.hid i1
    have B1 := Lib.hid b1
    clear hx hb hc hcm i1 b1
    cases hok : codedOk xs
    · have hE := errOr7_no hok
      have H1 := streamErrors_any a1 c1 xs w1 X1.out (by unfold maxLen; omega) (HT.out.next B1.out)
      have H2 := Lib.hid (fun W (hb : Below w1.heap.size w1 W) => specStreamErrors_any a1 c1 xs W (X1.out.next hb) (by unfold maxLen; omega))
      rw [hE] at H1 H2
      have HH := Lib.hid H1
      clear hE hok H1
      go_wp2_with fail
      refine HH.out.mono ?_
      rintro e w2 ⟨rfl, b2⟩
      have B2 := Lib.hid (Below.next B1.out (Nat.le_refl _) b2)
      have HH2 := Lib.hid (H2.out w2 b2)
      clear b2 H2
      go_wp2_with fail
      refine HH2.out.mono ?_
      rintro e w3 ⟨rfl, b3⟩
      have B3 := Lib.hid (Below.next B2.out (Nat.le_refl _) b3)
      clear b3
      go_wp2_with fail
      refine (alive_any w3).mono ?_
      rintro e w8 ⟨rfl, b8⟩
      have B8 := Lib.hid (Below.next B3.out (Nat.le_refl _) b8)
      clear b8
      go_wp2
      go_ret
      exact ⟨rfl, B8.out⟩
    · have hE := errOr7_yes hok
      obtain ⟨p1, p2, p3, p4⟩ := codedOk_parts hok
      obtain ⟨E, hEE⟩ : ∃ E, E = errS (prs xs) := ⟨_, rfl⟩
      have hE84 : E ≤ 84 := by rw [hEE]; exact codedOk_err hok
      rw [← hEE] at hE
      have H1 := streamErrors_any a1 c1 xs w1 X1.out (by unfold maxLen; omega) (HT.out.next B1.out)
      have H2 := Lib.hid (fun W (hb : Below w1.heap.size w1 W) => specStreamErrors_any a1 c1 xs W (X1.out.next hb) (by unfold maxLen; omega))
      rw [hE] at H1 H2
      have HH := Lib.hid H1
      have HOK := Lib.hid hok
      have HEE := Lib.hid hEE
      have zz : ((E : Int) != (E : Int)) = false := by simp
      clear hE hok H1 hEE
      go_wp2_with fail
      refine HH.out.mono ?_
      rintro e w2 ⟨rfl, b2⟩
      have B2 := Lib.hid (Below.next B1.out (Nat.le_refl _) b2)
      have X2 := Lib.hid (X1.out.next b2)
      have HH2 := Lib.hid (H2.out w2 b2)
      clear b2 H2 X1 B1 HH
      go_wp2_with fail
      refine HH2.out.mono ?_
      rintro e w3 ⟨rfl, b3⟩
      have B3 := Lib.hid (Below.next B2.out (Nat.le_refl _) b3)
      have X3 := Lib.hid (X2.out.next b3)
      clear b3 X2 B2 HH2
      go_wp2
      go_loopw [5, 6] (fun s i wr => ∃ k n : Nat, k ≤ xs.length ∧ i = .int .i64 (k : Nat) ∧ s = .int .i64 (onesK xs k : Nat) ∧ wr = w3.drewN n) (fun _ i _ => xs.length - (intOf i).toNat)
      case atStart => exact ⟨0, 0, Nat.zero_le _, rfl, rfl, rfl⟩
      case round =>
        obtain ⟨k, n, hk, rfl, rfl, rfl⟩ := hrel
        have X4 : Hid (Ints .i64 (w3.drewN n) (w3.drewN n).heap.size a1 xs) := X3.out
        have hok84 := onesK_le xs k
        by_cases hlt : k < xs.length
        · obtain ⟨b, off, rfl, _, hcl⟩ := X4.out.at_ hlt
          have HON := Lib.hid (onesK_next p4 hlt)
          have hx01 : 0 ≤ el xs k ∧ el xs k ≤ 1 := by rcases isBit_cases (List.all_eq_true.1 p4 _ (el_mem hlt)) with h | h <;> rw [h] <;> decide
          obtain ⟨hx0, hx1⟩ := hx01
          have hok84' := onesK_le xs (k + 1)
          obtain ⟨o, ho⟩ : ∃ o, o = onesK xs k := ⟨_, rfl⟩
          obtain ⟨o1, ho1⟩ : ∃ o, o = onesK xs (k + 1) := ⟨_, rfl⟩
          rw [← ho, ← ho1] at HON
          rw [← ho] at hok84
          rw [← ho]
          have HO := Lib.hid (And.intro ho ho1)
          generalize el xs k = x at *
          clear ho ho1
          go_wp2
          go_roundw
          case rel => exact ⟨k + 1, n, by omega, by go_num, by rw [← HO.out.2, HON.out], rfl⟩
          case measure => simp [intOf]; omega
        · have hkn : k = xs.length := by omega
          subst hkn
          have hle := err_ones HOK.out
          rw [← HEE.out] at hle
          generalize onesK xs xs.length = o at *
          have B4 := Lib.hid (below_drewN B3.out n)
          generalize w3.drewN n = w4 at *
          clear X3 B3
          have x0b := List.all_eq_true.1 p4 _ (el_mem (show 0 < xs.length by omega))
          obtain ⟨x0, hx0⟩ : ∃ x, x = el xs 0 := ⟨_, rfl⟩
          obtain ⟨Z, hZ⟩ : ∃ Z, Z = xs.set 0 (1 - x0) := ⟨_, rfl⟩
          rw [← hx0] at x0b
          have hx01 : 0 ≤ x0 ∧ x0 ≤ 1 := by rcases isBit_cases x0b with h | h <;> rw [h] <;> decide
          obtain ⟨hx00, hx11⟩ := hx01
          have hZok : codedOk Z = true := by rw [hZ]; exact codedOk_set HOK.out 0 (flip_bit x0b)
          have hZl : xs.length = Z.length := by rw [hZ]; simp
          have hZd : dist xs Z ≤ 1 := by rw [hZ]; exact dist_set1 _ _ _
          obtain ⟨G, hG⟩ : ∃ G, G = errS (prs Z) := ⟨_, rfl⟩
          have hG84 : G ≤ 84 := by rw [hG]; exact codedOk_err hZok
          have hn1 := err_next HOK.out hZok hZl hZd
          have hn2 := err_next hZok HOK.out hZl.symm (by rw [dist_symm hZl]; exact hZd)
          rw [← HEE.out, ← hG] at hn1 hn2
          have hGe := errOr7_yes hZok
          rw [← hG] at hGe
          have I5 := Lib.hid (fun o => X4.out.next (below_new w4 o))
          have HZ := Lib.hid (And.intro hZ (And.intro hZl (And.intro hx0 hGe)))
          have hle' : (E : Int) ≤ (o : Int) := by omega
          have hdl := dec_ok HOK.out
          have hDc := decOr7_yes HOK.out
          have hEc := strOr_yes hdl
          obtain ⟨D, hD⟩ : ∃ D, D = decL7 xs := ⟨_, rfl⟩
          rw [← hD] at hDc hEc
          have hDl : D.length ≤ 40 := by rw [hD]; exact (strOk_parts hdl).1
          have hcd : E = 0 ↔ codeL D = xs := by rw [HEE.out, hD]; exact err_none HOK.out
          obtain ⟨Q, hQ⟩ : ∃ Q, Q = codeL D := ⟨_, rfl⟩
          rw [← hQ] at hEc hcd
          have hQl : Q.length ≤ 84 := by rw [← hEc]; exact strOr_length D
          have HDQ := Lib.hid (And.intro hDc (And.intro hEc hcd))
          clear hZ hx0 hZok hZd hG hGe x0b hZl hdl hDc hEc hD hQ hcd
          go_wp2_with (at_builtin; refine wpList_appendA (.tmp 38) (.tmp 39) w4.heap.size (some ⟨w4.heap.size, 0, none⟩) a1 0 0 xs.length c1 _ [] xs rfl rfl rfl rfl (Grow.lit0 _ _ _ _ (Nat.le_refl _)) (I5.out _) rfl (by omega) (by simp) ?_; intro a5 cap5 w5 hg5 hb5 ha5; rw [Nat.zero_add, List.nil_append] at hg5; obtain ⟨g5, rfl⟩ := addr_some hg5 ha5 (by simp); obtain ⟨cg, fg⟩ := hg5.cellS (i := 0) (by omega); rw [← HZ.out.2.2.1] at cg; have HG5 := Lib.hid (hg5.set 0 (1 - x0)); have hbk := hg5.blockBound.1; have hb5' := (below_new w4 _).trans hb5; have HB5 := Lib.hid (hb5'.setCell (p := ⟨g5, 0, none⟩) hbk (.int .i64 (1 - x0))); clear hg5 hb5 ha5 hb5')
          have B6 := Lib.hid (Below.next B4.out (Nat.le_refl _) HB5.out)
          have X6 := Lib.hid (X4.out.next HB5.out)
          have hzg := HG5.out
          rw [← HZ.out.1] at hzg
          have Z6 := Lib.hid hzg.ints
          clear hzg HG5 cg fg HB5 X4 B4 I5
          generalize w5.setCell ⟨g5, 0, none⟩ (.int .i64 (1 - x0)) = w6 at *
          have hdd := decodeStream_any a1 c1 xs w6 X6.out (by unfold maxLen; omega) (HT.out.next B6.out)
          rw [HDQ.out.1] at hdd
          have HDD := Lib.hid hdd
          clear hdd
          refine HDD.out.mono ?_
          rintro e w7 ⟨v7, cv7, rfl, _, o7, b7⟩
          have D7 := Lib.hid (own_of_list o7).ints
          have X7 := Lib.hid (X6.out.next b7)
          have Z7 := Lib.hid (Z6.out.next b7)
          have B7 := Lib.hid (Below.next B6.out (Nat.le_refl _) b7)
          have hee := encodeStream_any v7 cv7 D w7 D7.out (by unfold maxLen; omega) (HT.out.next B7.out)
          rw [HDQ.out.2.1] at hee
          have HEN := Lib.hid hee
          clear o7 b7 X6 Z6 B6 HDD hee
          go_wp2_with fail
          refine HEN.out.mono ?_
          rintro e w8 ⟨v8, cv8, rfl, _, o8, b8⟩
          have Q8 := Lib.hid (own_of_list o8).ints
          have X8 := Lib.hid (X7.out.next b8)
          have Z8 := Lib.hid (Z7.out.next b8)
          have B8 := Lib.hid (Below.next B7.out (Nat.le_refl _) b8)
          have HSQ := Lib.hid (sameInts_any v8 a1 cv8 c1 w8.heap.size w8.heap.size Q xs w8 Q8.out X8.out (by omega))
          clear o8 b8 X7 Z7 B7 D7 HEN
          by_cases hz : E = 0
          · have z1 : ((E : Int) == 0) = true := by simp [hz]
            have z2 : decide (Q = xs) = true := by simpa using HDQ.out.2.2.1 hz
            rw [z2] at HSQ
            clear hz z2
            go_wp2_with fail
            refine HSQ.out.mono ?_
            rintro e w9 ⟨rfl, n9, rfl⟩
            have B9 := Lib.hid (below_drewN B8.out n9)
            have Z9 : Hid (Ints .i64 (w8.drewN n9) (w8.drewN n9).heap.size (some ⟨g5, 0, none⟩) Z) := Z8.out
            clear B8 Z8 X8 Q8
            generalize w8.drewN n9 = w9 at *
            have hse := streamErrors_any (some ⟨g5, 0, none⟩) cap5 Z w9 Z9.out (by have := HZ.out.2.1; unfold maxLen; omega) (HT.out.next B9.out)
            rw [← HZ.out.2.1, HZ.out.2.2.2] at hse
            have HSE := Lib.hid hse
            clear hse
            go_wp2_with fail
            refine HSE.out.mono ?_
            rintro e w10 ⟨rfl, b10⟩
            have B10 := Lib.hid (Below.next B9.out (Nat.le_refl _) b10)
            clear b10
            go_wp2_with fail
            refine (absNear_any G E w10 hn1 hn2).mono ?_
            rintro e w11 ⟨⟨k, hk1, hk2, rfl⟩, rfl⟩
            go_wp2
            go_ret
            exact ⟨rfl, B10.out⟩
          · have z1 : ((E : Int) == 0) = false := by rw [beq_eq_false_iff_ne]; omega
            have z2 : decide (Q = xs) = false := by simpa using fun h => hz (HDQ.out.2.2.2 h)
            rw [z2] at HSQ
            clear hz z2
            go_wp2_with fail
            refine HSQ.out.mono ?_
            rintro e w9 ⟨rfl, n9, rfl⟩
            have B9 := Lib.hid (below_drewN B8.out n9)
            have Z9 : Hid (Ints .i64 (w8.drewN n9) (w8.drewN n9).heap.size (some ⟨g5, 0, none⟩) Z) := Z8.out
            clear B8 Z8 X8 Q8
            generalize w8.drewN n9 = w9 at *
            have hse := streamErrors_any (some ⟨g5, 0, none⟩) cap5 Z w9 Z9.out (by have := HZ.out.2.1; unfold maxLen; omega) (HT.out.next B9.out)
            rw [← HZ.out.2.1, HZ.out.2.2.2] at hse
            have HSE := Lib.hid hse
            clear hse
            go_wp2_with fail
            refine HSE.out.mono ?_
            rintro e w10 ⟨rfl, b10⟩
            have B10 := Lib.hid (Below.next B9.out (Nat.le_refl _) b10)
            clear b10
            go_wp2_with fail
            refine (absNear_any G E w10 hn1 hn2).mono ?_
            rintro e w11 ⟨⟨k, hk1, hk2, rfl⟩, rfl⟩
            go_wp2
            go_ret
            exact ⟨rfl, B10.out⟩
  · go_enter Tryd.func5, Tryd.ntmps5
    go_wp2
    go_ret
    exact ⟨rfl, Below.refl _ _⟩
end Go.Proofs.YtnjjblcigcblhaaDoor
