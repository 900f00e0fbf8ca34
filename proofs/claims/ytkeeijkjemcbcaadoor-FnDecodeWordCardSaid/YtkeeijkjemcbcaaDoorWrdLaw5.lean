/-
  The law of decoding a word, walked: it returns true for every two codes, and writes into nothing that was there. Condition: three of the program's tables lie in their variables.
-/
import Derived.Test.YtkeeijkjemcbcaaDoorWrdLaw2
import Derived.Test.YtkeeijkjemcbcaaDoorWrdLaw4
namespace Go.Proofs.YtkeeijkjemcbcaaDoor
open Go.RowKit

theorem dec6_yes {xs ys : List Int} (h : dec6 xs = some ys) : ∃ c d, Lt16 c ∧ Lt16 d ∧ xs = ofN c 15 ∧ ys = ofN d 15 ∧ Zero6 d ∧ Near c d := by
  cases hk : wok 15 xs
  · rw [dec6_no hk] at h; cases h
  · have hc := wok_lt hk
    have hx := wok_eq hk
    rw [hx] at h
    obtain ⟨d, e, hz, hn⟩ := dec6_near hc h
    exact ⟨co xs, d, hc, near_lt hc hn, hx, e, hz, hn⟩
/-- A word with at most j symbols changed, j of 0, 1, 2. -/
def Upto (d : Nat → Nat) (j : Nat) (b : Nat → Nat) : Prop := ∃ i k e f, i < 15 ∧ k < 15 ∧ e < 16 ∧ f < 16 ∧ b = upd (upd d i e) k f ∧ (j < 2 → f = 0) ∧ (j < 1 → e = 0)
theorem Upto.start (d : Nat → Nat) : Upto d 0 d := ⟨0, 0, 0, 0, by omega, by omega, by omega, by omega, by rw [upd_zero, upd_zero], fun _ => rfl, fun _ => rfl⟩
theorem Upto.next {d b : Nat → Nat} {j P v : Nat} (h : Upto d j b) (hj : j < 2) (hP : P < 15) (hv : v < 16) : Upto d (j + 1) (upd b P v) := by
  obtain ⟨i, k, e, f, hi, hk, he, hf, rfl, h2, h1⟩ := h
  obtain rfl := h2 hj
  by_cases h0 : j < 1
  · obtain rfl := h1 h0
    exact ⟨P, k, v, 0, hP, hk, hv, hf, by rw [upd_zero, upd_zero, upd_zero], fun _ => rfl, fun h => by omega⟩
  · exact ⟨i, P, e, v, hi, hP, he, hv, by rw [upd_zero], fun h => by omega, fun h => by omega⟩
theorem Upto.near {d b : Nat → Nat} {j : Nat} (h : Upto d j b) : Near d b := by
  obtain ⟨i, k, e, f, hi, hk, he, hf, hb, _⟩ := h
  exact ⟨i, k, e, f, hi, hk, he, hf, hb⟩
theorem byte_nat {es : List Int} (h : ∀ n ∈ es, isByte n) {i : Nat} (hi : i < es.length) : ∃ v : Nat, el es i = (v : Int) ∧ v < 256 := by
  obtain ⟨h0, h1⟩ := h _ (el_mem hi)
  exact ⟨(el es i).toNat, by omega, by omega⟩
set_option maxHeartbeats 2000000 in
theorem walkDecodeWord (a : Option Addr) (c : Nat) (ds : List Int) (a' : Option Addr) (c' : Nat) (es : List Int) (w : World)
    (hx : Ints .u8 w w.heap.size a ds) (hw : ∀ n ∈ ds, (Lit.int .u8 n).wf = true) (hc : ds.length ≤ c) (hcm : c ≤ maxLen)
    (hy : Ints .u8 w w.heap.size a' es) (hw' : ∀ n ∈ es, (Lit.int .u8 n).wf = true) (_hc' : es.length ≤ c') (_hcm' : c' ≤ maxLen) (hT : Tabs2 w) (hZ : ZerTab w) :
    Calls Tryd.prog 6 #[.slice a ds.length c, .slice a' es.length c'] w fun e w' => e = .returned (.bool true) ∧ Below w.heap.size w w' := by
  have hb := isByte_of_wf hw
  have HBy := Lib.hid (isByte_of_wf hw')
  have Y0 := Lib.hid hy
  have HT := Lib.hid hT
  have HZ := Lib.hid hZ
  clear hw hw' hT hZ hy _hc' _hcm'
  by_cases hl : ds.length ≤ 1048576
  · by_cases hl' : es.length ≤ 1048576
    · go_enter Tryd.func6, Tryd.ntmps6
      go_wp2_with fail
      refine (drawDecodeWord_any a c ds w hx hb hc hcm).mono ?_
      rintro e w1 ⟨xs, a1, c1, rfl, ⟨l1, l2, l3⟩, i1, b1⟩
      have X1 := Lib.hid i1
      have B1 := Lib.hid b1
      have Y1 := Lib.hid (Y0.out.next b1)
      clear hx hb hc hcm i1 b1 Y0
      obtain ⟨o, ho⟩ : ∃ o, o = dec6 xs := ⟨_, rfl⟩
      have h2 := decodeWord_any a1 c1 xs w1 X1.out (HT.out.next B1.out) (HZ.out.next B1.out)
      have hsp := specDecodeWord_any a1 c1 xs
      rw [← ho] at h2 hsp
      have H2 := Lib.hid h2
      have HSP := Lib.hid hsp
      have HO := Lib.hid ho
      clear h2 hsp ho
      cases o with
      | none =>
        go_wp2_with fail
        refine H2.out.mono ?_
        rintro e w2 hp
        obtain ⟨v2, cv2, rfl, b2⟩ := hp.no
        have X2 := Lib.hid (X1.out.next b2)
        have B2 := Lib.hid (Below.next B1.out (Nat.le_refl _) b2)
        clear hp b2
        go_wp2_with fail
        refine (HSP.out w2 X2.out (by omega)).mono ?_
        rintro e w3 hp
        obtain ⟨v3, cv3, rfl, b3⟩ := hp.no
        have B3 := Lib.hid (Below.next B2.out (Nat.le_refl _) b3)
        clear hp b3
        go_wp2_with fail
        refine (sameInts_any v2 v3 cv2 cv3 w3.heap.size w3.heap.size [] [] w3 (fun h => absurd rfl h) (fun h => absurd rfl h) (by simp)).mono ?_
        rintro e w4 ⟨rfl, n4, rfl⟩
        go_wp2_with fail
        refine (alive_any _).mono ?_
        rintro e w8 ⟨rfl, b8⟩
        have B8 := Lib.hid (Below.next (below_drewN B3.out n4) (Nat.le_refl _) b8)
        clear b8
        go_wp2
        go_ret
        exact ⟨rfl, B8.out⟩
      | some ys =>
        obtain ⟨p, d, hp16, hd16, rfl, rfl, hz, hn⟩ := dec6_yes HO.out.symm
        rw [ofN_length] at *
        have HP16 := Lib.hid hp16
        have HD16 := Lib.hid hd16
        have HZ6 := Lib.hid hz
        have HN := Lib.hid hn
        have hlp : ∀ w, Ints .i64 w w.heap.size a1 (ofN p 15) → Calls Tryd.prog 27 #[.slice a1 15 c1] w (DecP (some (ofN d 15)) w) := fun w h => HSP.out w h (by omega)
        have HSQ := Lib.hid hlp
        clear HO hp16 hd16 hz hn l1 HSP hlp
        go_wp2_with fail
        refine H2.out.mono ?_
        rintro e w2 hp
        obtain ⟨v2, cv2, rfl, i2, b2⟩ := hp.yes
        have I2 := Lib.hid i2
        have X2 := Lib.hid (X1.out.next b2)
        have Y2 := Lib.hid (Y1.out.next b2)
        have B2 := Lib.hid (Below.next B1.out (Nat.le_refl _) b2)
        clear hp i2 b2 X1 Y1 B1 H2
        go_wp2_with fail
        refine (HSQ.out w2 X2.out).mono ?_
        rintro e w3 hp
        obtain ⟨v3, cv3, rfl, j3, b3⟩ := hp.yes
        have J3 := Lib.hid j3
        have I3 := Lib.hid (I2.out.next b3)
        have X3 := Lib.hid (X2.out.next b3)
        have Y3 := Lib.hid (Y2.out.next b3)
        have B3 := Lib.hid (Below.next B2.out (Nat.le_refl _) b3)
        have h4 := sameInts_any v2 v3 cv2 cv3 w3.heap.size w3.heap.size (ofN d 15) (ofN d 15) w3 I3.out J3.out (by rw [ofN_length]; omega)
        rw [ofN_length, decide_eq_true rfl] at h4
        have H4 := Lib.hid h4
        clear hp j3 b3 I2 X2 Y2 B2 h4 HSQ
        go_wp2_with fail
        refine H4.out.mono ?_
        rintro e w4 ⟨rfl, n4, rfl⟩
        have I4 : Hid (Ints .i64 (w3.drewN n4) (w3.drewN n4).heap.size v2 (ofN d 15)) := I3.out
        have X4 : Hid (Ints .i64 (w3.drewN n4) (w3.drewN n4).heap.size a1 (ofN p 15)) := X3.out
        have Y4 : Hid (Ints .u8 (w3.drewN n4) (w3.drewN n4).heap.size a' es) := Y3.out
        have B4 := Lib.hid (below_drewN B3.out n4)
        clear H4 I3 X3 Y3 B3 J3
        generalize w3.drewN n4 = w4 at *
        have IA := Lib.hid (fun o => I4.out.below (below_alloc w4 o))
        have BA := Lib.hid (fun o => below_alloc w4 o)
        go_wp2_with (at_builtin; refine wpList_appendA (.tmp 51) (.tmp 52) w4.heap.size (some ⟨w4.heap.size, 0, none⟩) v2 0 0 15 cv2 w4.heap.size [] (ofN d 15) rfl rfl rfl rfl (Grow.lit0 _ _ _ _ (Nat.le_refl _)) (IA.out _) (ofN_length _ _) (by omega) (by simp) ?_; intro a5 cap5 w5 hg5 hb5 _; rw [Nat.zero_add, List.nil_append] at hg5; obtain ⟨bb, rfl, hbb⟩ := hg5.addr0 (grow_some hg5 (by rw [ofN_length]; omega)); have W5 := Lib.hid (show WS w4 w5 bb 15 cap5 d from ⟨hg5, (BA.out _).trans hb5⟩); clear hg5 hb5)
        clear IA BA
        go_loopw [11] (fun i wr => ∃ (j : Nat) (b : Nat → Nat), j ≤ 2 ∧ i = .int .i64 ((2 * j : Nat) : Int) ∧ Lt16 b ∧ Upto d j b ∧ WS w4 wr bb 15 cap5 b) (fun i _ => 4 - (intOf i).toNat)
        case atStart => exact ⟨0, d, by omega, rfl, HD16.out, Upto.start d, W5.out⟩
        case round =>
          obtain ⟨j, bw, hj, rfl, hbw, hup, hs⟩ := hrel
          clear W5
          obtain ⟨k, hk⟩ : ∃ k, k = 2 * j := ⟨_, rfl⟩
          rw [← hk]
          have S5 := Lib.hid hs
          have HUp := Lib.hid hup
          have HBw := Lib.hid hbw
          clear hs hup hbw
          by_cases hgo : k + 1 < es.length ∧ k < 4
          · obtain ⟨hk1, hk4⟩ := hgo
            obtain ⟨v1, e1, hv1⟩ := byte_nat HBy.out (show k < es.length by omega)
            obtain ⟨v2', e2, hv2⟩ := byte_nat HBy.out hk1
            obtain ⟨b', off', rfl, hb'4, cA⟩ := Y4.out.at_ (show k < es.length by omega)
            obtain ⟨_, _, e', _, cB⟩ := Y4.out.at_ hk1
            injection e' with e'
            injection e' with e1' e2'
            subst e1' e2'
            rw [e1] at cA
            rw [e2] at cB
            have cA2 := (S5.out.2.cell hb'4).trans cA
            have cB2 := (S5.out.2.cell hb'4).trans cB
            obtain ⟨P, hP⟩ : ∃ P, P = v1 % 15 := ⟨_, rfl⟩
            obtain ⟨V, hV⟩ : ∃ V, V = v2' % 16 := ⟨_, rfl⟩
            have hP15 : P < 15 := by omega
            have hu16 := HBw.out P
            have hx16 := xor_lt hu16 (show V < 16 by omega)
            obtain ⟨cR, fR⟩ := S5.out.cell hP15
            have hset : WS w4 (wr.drew.setCell ⟨bb, P, none⟩ (.int .i64 (V : Int))) bb 15 cap5 (upd bw P (bw P ^^^ V)) :=
              WS.set (W := wr.drew) ⟨S5.out.1.drewN 1, below_drewN S5.out.2 1⟩ hP15 (xor_self_l _ _).symm
            have HSet := Lib.hid hset
            have HLt := Lib.hid (upd_lt (m := P) HBw.out hx16)
            have HUn := Lib.hid (HUp.out.next (show j < 2 by omega) hP15 hx16)
            obtain ⟨q, hq⟩ : ∃ q, q = k + 1 := ⟨_, rfl⟩
            rw [← hq] at cB2 hk1
            have r0 : IntKind.i64.wrap (k : Int) + 1 = (q : Int) := by rw [IntKind.wrap_i64]; omega
            have r1 : IntKind.i64.wrap ((k : Int) + 1) = (q : Int) := by rw [IntKind.wrap_i64]; omega
            have r2 : IntKind.i64.wrap (v1 : Int) = (v1 : Int) := by rw [IntKind.wrap_i64]; omega
            have r3 : IntKind.i64.wrap (v2' : Int) = (v2' : Int) := by rw [IntKind.wrap_i64]; omega
            have r4 : (v1 : Int).tmod 15 = (P : Int) := by rw [Int.tmod_eq_emod_of_nonneg (by omega)]; omega
            have r5 : (v2' : Int).tmod 16 = (V : Int) := by rw [Int.tmod_eq_emod_of_nonneg (by omega)]; omega
            have z1 : decide ((q : Int) < (es.length : Int)) = true := by simp; omega
            have z2 : decide ((k : Int) < 4) = true := by simp; omega
            have hPi : (P : Int) < 15 := by omega
            have hk0 : k < es.length := by omega
            have HQ := Lib.hid hq
            have HK := Lib.hid hk
            clear hset hq hk hP hV hu16 hx16 cA cB e1 e2 hv1 hv2 r0
            go_wp2
            (refine wp_region_still_tail 15 (by kernel_rfl) (by kernel_rfl) ?_
             simp only [List.take_succ_cons, List.take_zero, List.drop_succ_cons, List.drop_zero]
             repeat still_step)
            refine wpStill_nil ?_
            change wpList _ _ _ _ _ wr.drew
            have cN2 : wr.drew.cell? ⟨bb, P, none⟩ = some (.int .i64 (bw P : Int)) := cR
            have fN2 : wr.drew.frozen? ⟨bb, P, none⟩ = false := fR
            clear r1 r2 r3 r4 r5 z1 z2
            generalize wr.drew = wd at *
            go_wp2
            go_roundw
            case rel => exact ⟨j + 1, _, by have := HK.out; omega, by rw [show ((2 * (j + 1) : Nat) : Int) = (k : Int) + 2 by have := HK.out; omega], HLt.out, HUn.out, HSet.out⟩
            case measure => simp [intOf]; omega
          · have B6 := Lib.hid (Below.next B4.out (Nat.le_refl _) S5.out.2)
            have I6 := Lib.hid (I4.out.next S5.out.2)
            have X6 := Lib.hid (X4.out.next S5.out.2)
            have h7 := decodeWord_any (some ⟨bb, 0, none⟩) cap5 (ofN bw 15) wr S5.out.1.ints (HT.out.next B6.out) (HZ.out.next B6.out)
            rw [ofN_length, dec6_ofN HBw.out (near_back HUp.out.near) HZ6.out] at h7
            have H7 := Lib.hid h7
            obtain ⟨z, hz⟩ : ∃ z, z = dist6 (ofN d 15) (ofN p 15) := ⟨_, rfl⟩
            have hz2 : z ≤ 2 := by rw [hz, dist6_ofN HD16.out HP16.out]; have := near_wt HN.out; omega
            have HZD := Lib.hid hz
            have HSyn := Lib.hid (syn_zero HD16.out HZ6.out)
            clear h7 S5 I4 X4 Y4 B4 HUp HBw hz
            have hleave : (¬ k + 1 < es.length) ∨ (k + 1 < es.length ∧ ¬ k < 4) := by omega
            clear hgo
            obtain ⟨q, hq⟩ : ∃ q, q = k + 1 := ⟨_, rfl⟩
            rw [← hq] at hleave
            have r1 : IntKind.i64.wrap ((k : Int) + 1) = (q : Int) := by rw [IntKind.wrap_i64]; omega
            have hzz : (¬ (q : Int) < (es.length : Int)) ∨ ((q : Int) < (es.length : Int) ∧ ¬ (k : Int) < 4) := by omega
            clear hleave hq hj hk
            rcases hzz with z1 | ⟨z1, z2⟩
            all_goals
              go_wp2_with fail
              refine H7.out.mono ?_
              rintro e w7 hp
              obtain ⟨v8, cv8, rfl, i8, b8⟩ := hp.yes
              have J8 := Lib.hid i8
              have I8 := Lib.hid (I6.out.next b8)
              have X8 := Lib.hid (X6.out.next b8)
              have B8 := Lib.hid (Below.next B6.out (Nat.le_refl _) b8)
              have h9 := wordDistance_any v2 a1 cv2 c1 (ofN d 15) (ofN p 15) w7 I8.out X8.out
              rw [ofN_length, ofN_length, ← HZD.out] at h9
              have H9 := Lib.hid h9
              clear hp i8 b8 h9
              go_wp2_with fail
              refine H9.out.mono ?_
              rintro e w9 ⟨rfl, n9, rfl⟩
              have h10 := wordSyndromes_any v2 cv2 (ofN d 15) (w7.drewN n9) I8.out (HT.out.next (below_drewN B8.out n9)) (HZ.out.next (below_drewN B8.out n9))
              rw [ofN_length] at h10
              unfold SynPost at h10
              rw [HSyn.out] at h10
              have H10 := Lib.hid h10
              clear h10
              go_wp2_with fail
              refine H10.out.mono ?_
              rintro e w10 ⟨v10, cv10, rfl, _, o10, b10⟩
              have S10 := Lib.hid (own_of_list o10).ints
              have J10 := Lib.hid ((show Ints .i64 (w7.drewN n9) (w7.drewN n9).heap.size v8 (ofN d 15) from J8.out).next b10)
              have I10 := Lib.hid ((show Ints .i64 (w7.drewN n9) (w7.drewN n9).heap.size v2 (ofN d 15) from I8.out).next b10)
              have B10 := Lib.hid (Below.next (below_drewN B8.out n9) (Nat.le_refl _) b10)
              clear o10 b10
              go_wp2_with fail
              refine (sameInts_any v10 (some ⟨w10.heap.size, 0, none⟩) cv10 4 w10.heap.size (w10.alloc (.cells #[.int .i64 ((0 : Nat) : Int), .int .i64 ((0 : Nat) : Int), .int .i64 ((0 : Nat) : Int), .int .i64 ((0 : Nat) : Int)] 3)).heap.size [((0 : Nat) : Int), ((0 : Nat) : Int), ((0 : Nat) : Int), ((0 : Nat) : Int)] [((0 : Nat) : Int), ((0 : Nat) : Int), ((0 : Nat) : Int), ((0 : Nat) : Int)] _ (S10.out.below (below_alloc w10 _)) (Grow.lit4 w10 w10.heap.size 0 0 0 0 (Nat.le_refl _)).ints (by simp)).mono ?_
              rintro e w11 ⟨rfl, n11, rfl⟩
              have B11 := Lib.hid (below_drewN (B10.out.alloc B10.out.size (.cells #[.int .i64 ((0 : Nat) : Int), .int .i64 ((0 : Nat) : Int), .int .i64 ((0 : Nat) : Int), .int .i64 ((0 : Nat) : Int)] 3)) n11)
              have J11 := Lib.hid (J10.out.next (below_drewN (below_alloc w10 (.cells #[.int .i64 ((0 : Nat) : Int), .int .i64 ((0 : Nat) : Int), .int .i64 ((0 : Nat) : Int), .int .i64 ((0 : Nat) : Int)] 3)) n11))
              have I11 := Lib.hid (I10.out.next (below_drewN (below_alloc w10 (.cells #[.int .i64 ((0 : Nat) : Int), .int .i64 ((0 : Nat) : Int), .int .i64 ((0 : Nat) : Int), .int .i64 ((0 : Nat) : Int)] 3)) n11))
              generalize (w10.alloc (.cells #[.int .i64 ((0 : Nat) : Int), .int .i64 ((0 : Nat) : Int), .int .i64 ((0 : Nat) : Int), .int .i64 ((0 : Nat) : Int)] 3)).drewN n11 = w11 at *
              have h12 := sameInts_any v8 v2 cv8 cv2 w11.heap.size w11.heap.size (ofN d 15) (ofN d 15) w11 J11.out I11.out (by rw [ofN_length]; omega)
              rw [ofN_length] at h12
              have H12 := Lib.hid h12
              clear h12
              go_wp2_with fail
              refine H12.out.mono ?_
              rintro e w12 ⟨rfl, n12, rfl⟩
              go_wp2
              go_ret
              exact ⟨by simp, below_drewN B11.out n12⟩
    · go_enter Tryd.func6, Tryd.ntmps6
      go_wp2
      go_ret
      exact ⟨rfl, Below.refl _ _⟩
  · go_enter Tryd.func6, Tryd.ntmps6
    go_wp2
    go_ret
    exact ⟨rfl, Below.refl _ _⟩
end Go.Proofs.YtkeeijkjemcbcaaDoor
