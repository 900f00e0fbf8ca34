/-
  The law of distances, walked: it returns true for every code, and writes into nothing that was there. Condition: three of the program's tables lie in their variables.
-/
import Derived.Test.YtkeeijkjemcbcaaDoorWrdLaw3
namespace Go.Proofs.YtkeeijkjemcbcaaDoor
open Go.RowKit

theorem dist6_comm (xs ys : List Int) : dist6 ys xs = dist6 xs ys := by
  unfold dist6
  rw [Bool.and_comm, wt_congr 15 fun i _ => Nat.xor_comm (co ys i) (co xs i)]
theorem dist6_ofN {c d : Nat → Nat} (hc : Lt16 c) (hd : Lt16 d) : dist6 (ofN c 15) (ofN d 15) = (wt (fun i => c i ^^^ d i) 15 : Int) := by
  rw [dist6_yes (wok_ofN hc 15) (wok_ofN hd 15), wt_congr 15 fun i hi => by rw [co_ofN hi, co_ofN hi]]
theorem wt_xor_zero {c d : Nat → Nat} (hc : Lt16 c) (hd : Lt16 d) {n : Nat} : wt (fun i => c i ^^^ d i) n = 0 ↔ ∀ i, i < n → c i = d i :=
  ⟨fun h i hi => xor_eq (hc i) (hd i) (wt_zero n h i hi), fun h => wt_none n fun i hi => xor_zero_iff (h i hi)⟩
/-- What the law compares: a distance is 0 just for equal words; code words are equal just if their data are, and otherwise five apart or more. -/
theorem dist_facts {c d : Nat → Nat} (hc : Lt16 c) (hd : Lt16 d) : ∃ (m g : Nat) (r q : Bool), dist6 (ofN c 15) (ofN d 15) = (m : Int) ∧ dist6 (ofN (enc6 c) 15) (ofN (enc6 d) 15) = (g : Int) ∧
    ((m : Int) == 0) = r ∧ decide (ofN c 15 = ofN d 15) = r ∧ ((g : Int) == 0) = q ∧ decide (ofN c 11 = ofN d 11) = q ∧ (q = false → 5 ≤ g) := by
  have hE := enc6_lt hc
  have hF := enc6_lt hd
  have hz : wt (fun i => enc6 c i ^^^ enc6 d i) 15 = 0 ↔ ∀ i, i < 11 → c i = d i := by
    rw [wt_xor_zero hE hF]
    exact ⟨fun h i hi => by have := h i (by omega); rwa [enc6_data c hi, enc6_data d hi] at this, fun h => enc6_congr hc hd h⟩
  refine ⟨_, _, decide (ofN c 15 = ofN d 15), decide (ofN c 11 = ofN d 11), dist6_ofN hc hd, dist6_ofN hE hF, ?_, rfl, ?_, rfl, ?_⟩
  · rw [Bool.eq_iff_iff, beq_iff_eq, decide_eq_true_iff, ofN_eq, ← wt_xor_zero hc hd]
    omega
  · rw [Bool.eq_iff_iff, beq_iff_eq, decide_eq_true_iff, ofN_eq, ← hz]
    omega
  · intro h
    rw [decide_eq_false_iff_not, ofN_eq, ← hz] at h
    by_cases h5 : 5 ≤ wt (fun i => enc6 c i ^^^ enc6 d i) 15
    · exact h5
    · exact absurd ((wt_xor_zero hE hF).2 (same_light hE hF (enc6_zero hc) (enc6_zero hd) (by omega))) h
theorem dist6_out {xs ys : List Int} (h : (wok 15 xs && wok 15 ys) = false) : dist6 xs ys = -1 := by
  unfold dist6; rw [if_neg (by simp [h])]
set_option maxHeartbeats 2000000 in
theorem walkWordDistance (a : Option Addr) (c : Nat) (ds : List Int) (w : World) (hx : Ints .u8 w w.heap.size a ds) (hw : ∀ n ∈ ds, (Lit.int .u8 n).wf = true) (hc : ds.length ≤ c) (hcm : c ≤ maxLen) (hT : Tabs2 w) (hG : GenTab w) :
    Calls Tryd.prog 5 #[.slice a ds.length c] w fun e w' => e = .returned (.bool true) ∧ Below w.heap.size w w' := by
  have hb := isByte_of_wf hw
  have HT := Lib.hid hT
  have HG := Lib.hid hG
  clear hw hT hG
  by_cases hl : ds.length ≤ 1048576
  · go_enter Tryd.func5, Tryd.ntmps5
    go_wp2_with fail
    refine (drawWordDistance_any a c ds w hx hb hc hcm).mono ?_
    rintro e w1 ⟨xs, a1, c1, ys, a2, c2, rfl, ⟨l1, l2⟩, ⟨l3, l4, l5, l6⟩, i1, j1, b1⟩
    have X1 := Lib.hid i1
    have Y1 := Lib.hid j1
    have B1 := Lib.hid b1
    clear hx hb hc hcm i1 j1 b1
    obtain ⟨N, hN⟩ : ∃ N, N = dist6 xs ys := ⟨_, rfl⟩
    have HN := Lib.hid hN
    clear hN
    have K1 := Lib.hid (fun n => show Calls Tryd.prog 23 #[.slice a1 xs.length c1, .slice a2 ys.length c2] (w1.drewN n) (fun e w' => e = .returned (.int .i64 N) ∧ ∃ m, w' = (w1.drewN n).drewN m) by
      rw [HN.out]; exact wordDistance_any a1 a2 c1 c2 xs ys (w1.drewN n) X1.out Y1.out)
    have K2 := Lib.hid (fun n => show Calls Tryd.prog 24 #[.slice a1 xs.length c1, .slice a2 ys.length c2] (w1.drewN n) (fun e w' => e = .returned (.int .i64 N) ∧ ∃ m, w' = (w1.drewN n).drewN m) by
      rw [HN.out]; exact specWordDistance_any a1 a2 c1 c2 xs ys (w1.drewN n) X1.out Y1.out (by omega) (by omega))
    have K3 := Lib.hid (fun n => show Calls Tryd.prog 23 #[.slice a2 ys.length c2, .slice a1 xs.length c1] (w1.drewN n) (fun e w' => e = .returned (.int .i64 N) ∧ ∃ m, w' = (w1.drewN n).drewN m) by
      rw [HN.out, ← dist6_comm]; exact wordDistance_any a2 a1 c2 c1 ys xs (w1.drewN n) Y1.out X1.out)
    go_wp2_with fail
    refine (K1.out 0).mono ?_
    rintro e w2 ⟨rfl, n2, rfl⟩
    go_wp2_with fail
    refine (K2.out n2).mono ?_
    rintro e w2 ⟨rfl, n3, rfl⟩
    go_wp2_with fail
    refine (K3.out (n2 + n3)).mono ?_
    rintro e w2 ⟨rfl, n4, rfl⟩
    have X4 : Hid (Ints .i64 (w1.drewN (n2 + n3 + n4)) (w1.drewN (n2 + n3 + n4)).heap.size a1 xs) := X1.out
    have Y4 : Hid (Ints .i64 (w1.drewN (n2 + n3 + n4)) (w1.drewN (n2 + n3 + n4)).heap.size a2 ys) := Y1.out
    have B4 := Lib.hid (below_drewN B1.out (n2 + n3 + n4))
    clear K1 K2 K3 X1 Y1 B1
    cases hok : wok 15 xs && wok 15 ys
    · obtain rfl : N = -1 := by rw [HN.out, dist6_out hok]
      clear hok HN
      go_wp2_with fail
      refine (alive_any _).mono ?_
      rintro e w8 ⟨rfl, b8⟩
      have B8 := Lib.hid (Below.next B4.out (Nat.le_refl _) b8)
      clear b8
      go_wp2
      go_ret
      exact ⟨rfl, B8.out⟩
    · rw [Bool.and_eq_true] at hok
      have hp16 := wok_lt hok.1
      have hq16 := wok_lt hok.2
      have hxl := (wok_parts hok.1).1
      have hyl := (wok_parts hok.2).1
      have hxe := wok_eq hok.1
      have hye := wok_eq hok.2
      obtain ⟨m, g, r, q, hm, hg, hr1, hr2, hq1, hq2, h5⟩ := dist_facts hp16 hq16
      have HEP := Lib.hid (encL_ofN hp16)
      have HEQ := Lib.hid (encL_ofN hq16)
      generalize co xs = p at *
      generalize co ys = s at *
      subst hxe
      subst hye
      obtain rfl : N = (m : Int) := by rw [HN.out, hm]
      rw [ofN_length] at *
      rw [ofN_length] at *
      have hc11 : (11 : Int) ≤ (c1 : Int) := by omega
      have hd11 : (11 : Int) ≤ (c2 : Int) := by omega
      have hm0 : ¬ ((m : Int) < 0) := by omega
      have HD2 := Lib.hid hg
      have HR1 := Lib.hid hr1
      have HR2 := Lib.hid hr2
      have HQ1 := Lib.hid hq1
      have HQ2 := Lib.hid hq2
      have H55 := Lib.hid h5
      have hxl2 : 11 ≤ c1 := by omega
      have hyl2 : 11 ≤ c2 := by omega
      clear hok hp16 hq16 hxl hyl hm hg hr1 hr2 hq1 hq2 h5 HN l1 l2 l3 l4 l5 l6
      go_wp2
      generalize w1.drewN (n2 + n3 + n4) = w5 at *
      have X5 : Hid (Ints .i64 w5.drew w5.drew.heap.size a1 (ofN p 15)) := X4.out
      have Y5 : Hid (Ints .i64 w5.drew w5.drew.heap.size a2 (ofN s 15)) := Y4.out
      have E5 : Hid (Ints .i64 w5.drew w5.drew.heap.size a2 (ofN s 11)) := by
        have := Y5.out.cutT (m := 11)
        rwa [ofN_take _ (by omega)] at this
      have D5 : Hid (Ints .i64 w5.drew w5.drew.heap.size a1 (ofN p 11)) := by
        have := X5.out.cutT (m := 11)
        rwa [ofN_take _ (by omega)] at this
      have B5 := Lib.hid B4.out.drew
      have h1 := encodeWord_any a1 c1 (ofN p 11) w5.drew D5.out (HT.out.next B5.out) (HG.out.next B5.out)
      rw [ofN_length, HEP.out] at h1
      have H1 := Lib.hid h1
      clear h1 X4 Y4
      go_region_law (first
        | (go_simp; go_at_call 23; refine H8.out.mono ?_; rintro e w8 ⟨rfl, n8, rfl⟩; have X8 : Hid (Ints .i64 (w7.drewN n8) (w7.drewN n8).heap.size a1 (ofN p 15)) := X7.out; have Y8 : Hid (Ints .i64 (w7.drewN n8) (w7.drewN n8).heap.size a2 (ofN s 15)) := Y7.out; have B8 := Lib.hid (below_drewN B7.out n8); generalize w7.drewN n8 = w8 at *)
        | (go_simp; go_at_call 14; refine H7.out.mono ?_; rintro e w7 ⟨v7, cv7, rfl, _, o7, b7⟩; rw [ofN_length]; have J7 := Lib.hid (own_of_list o7).ints; have I7 := Lib.hid (I6.out.next b7); have X7 := Lib.hid (X6.out.next b7); have Y7 := Lib.hid (Y6.out.next b7); have B7 := Lib.hid (Below.next B6.out (Nat.le_refl _) b7); have h8 := wordDistance_any v6 v7 cv6 cv7 (ofN (enc6 p) 15) (ofN (enc6 s) 15) w7 I7.out J7.out; rw [ofN_length, ofN_length, HD2.out] at h8; have H8 := Lib.hid h8; clear h8 o7 b7)
        | (go_simp; go_at_call 14; refine H1.out.mono ?_; rintro e w6 ⟨v6, cv6, rfl, _, o6, b6⟩; rw [ofN_length]; have I6 := Lib.hid (own_of_list o6).ints; have X6 := Lib.hid (X5.out.next b6); have Y6 := Lib.hid (Y5.out.next b6); have E6 := Lib.hid (E5.out.next b6); have B6 := Lib.hid (Below.next B5.out (Nat.le_refl _) b6); have h7 := encodeWord_any a2 c2 (ofN s 11) w6 E6.out (HT.out.next B6.out) (HG.out.next B6.out); rw [ofN_length, HEQ.out] at h7; have H7 := Lib.hid h7; clear h7 o6 b6)
        | fail)
      all_goals
        have D8 : Hid (Ints .i64 w8 w8.heap.size a1 (ofN p 11)) := by
          have := X8.out.cutT (m := 11)
          rwa [ofN_take _ (by omega)] at this
        have E8 : Hid (Ints .i64 w8 w8.heap.size a2 (ofN s 11)) := by
          have := Y8.out.cutT (m := 11)
          rwa [ofN_take _ (by omega)] at this
        have Q15 := Lib.hid (fun n => show Calls Tryd.prog 15 #[.slice a1 15 c1, .slice a2 15 c2] (w8.drewN n) (fun e w' => e = .returned (.bool r) ∧ ∃ m, w' = (w8.drewN n).drewN m) by
          have := sameInts_any a1 a2 c1 c2 (w8.drewN n).heap.size (w8.drewN n).heap.size (ofN p 15) (ofN s 15) (w8.drewN n) X8.out Y8.out (by rw [ofN_length]; omega)
          rwa [ofN_length, ofN_length, HR2.out] at this)
        have Q11 := Lib.hid (fun n => show Calls Tryd.prog 15 #[.slice a1 11 c1, .slice a2 11 c2] (w8.drewN n) (fun e w' => e = .returned (.bool q) ∧ ∃ m, w' = (w8.drewN n).drewN m) by
          have := sameInts_any a1 a2 c1 c2 (w8.drewN n).heap.size (w8.drewN n).heap.size (ofN p 11) (ofN s 11) (w8.drewN n) D8.out E8.out (by rw [ofN_length]; omega)
          rwa [ofN_length, ofN_length, HQ2.out] at this)
        clear X5 Y5 D5 E5 B5 H1 I6 X6 Y6 E6 B6 H7 J7 I7 X7 Y7 B7 H8 X8 Y8 D8 E8
        cases q
        · have z5 : decide (5 ≤ (g : Int)) = true := by have := H55.out rfl; simp; omega
          have zq := HQ1.out
          cases r
          · have zr := HR1.out
            go_wp2
            go_quiet ((first
              | (go_at_call 15; with_reducible exact Calls.quiet_of (Q15.out _))
              | (go_at_call 15; with_reducible exact Calls.quiet_of (Q11.out _))))
            go_wp2
            go_ret
            exact ⟨rfl, below_drewN B8.out _⟩
          · have zr := HR1.out
            go_wp2
            go_quiet ((first
              | (go_at_call 15; with_reducible exact Calls.quiet_of (Q15.out _))
              | (go_at_call 15; with_reducible exact Calls.quiet_of (Q11.out _))))
            go_wp2
            go_ret
            exact ⟨rfl, below_drewN B8.out _⟩
        · have zq := HQ1.out
          cases r
          · have zr := HR1.out
            go_wp2
            go_quiet ((first
              | (go_at_call 15; with_reducible exact Calls.quiet_of (Q15.out _))
              | (go_at_call 15; with_reducible exact Calls.quiet_of (Q11.out _))))
            go_wp2
            go_ret
            exact ⟨rfl, below_drewN B8.out _⟩
          · have zr := HR1.out
            go_wp2
            go_quiet ((first
              | (go_at_call 15; with_reducible exact Calls.quiet_of (Q15.out _))
              | (go_at_call 15; with_reducible exact Calls.quiet_of (Q11.out _))))
            go_wp2
            go_ret
            exact ⟨rfl, below_drewN B8.out _⟩
  · go_enter Tryd.func5, Tryd.ntmps5
    go_wp2
    go_ret
    exact ⟨rfl, Below.refl _ _⟩
end Go.Proofs.YtkeeijkjemcbcaaDoor
