/-
  The law of decoding a stream, walked: the decoder is optimal and corrects two errors: it returns true for every code, and writes into nothing that was there. Condition: the program's two tables of the stream code lie in their variables.
-/
import Derived.Test.YtnjjblcigcblhaaDoorStrLaw4
namespace Go.Proofs.YtnjjblcigcblhaaDoor
open Go.RowKit

theorem byteNat {es : List Int} (h : ∀ n ∈ es, isByte n) {k : Nat} (hk : k < es.length) : ∃ m : Nat, el es k = (m : Int) ∧ m < 256 := by
  have hm := h _ (el_mem hk)
  have : 0 ≤ el es k ∧ el es k < 256 := by unfold isByte at hm; omega
  exact ⟨(el es k).toNat, by omega, by omega⟩
theorem bit_mod (m : Nat) : isBit ((m % 2 : Nat) : Int) = true := by
  rcases Nat.mod_two_eq_zero_or_one m with e | e <;> rw [e] <;> rfl
theorem set_length_eq {xs : List Int} {n : Nat} (h : xs.length = n) (i : Nat) (v : Int) : (xs.set i v).length = n := by simp [h]
/-- What the changed list of a code is decoded to, and how far other codes are. -/
theorem dec_far {xs zs : List Int} (h : codedOk xs = true) (hz : zs.all isBit = true) (hl : zs.length = (decL7 xs).length) : ((errS (prs xs) : Nat) : Int) ≤ distOr (strOr zs) xs ∧ distOr (codeL (decL7 xs)) xs = (errS (prs xs) : Int) := by
  have p := codedOk_parts h
  have hd := decL7_length xs
  have hdk := dec_ok h
  have hzk : strOk zs = true := strOk_mk (by have := (strOk_parts hdk).1; omega) hz
  refine ⟨?_, ?_⟩
  · rw [strOr_yes hzk, distOr_ok (pair_code hzk h (by omega))]
    have := err_least hz h (by omega)
    omega
  · rw [distOr_ok (pair_code hdk h (by omega)), dec_dist h]
set_option maxRecDepth 100000 in
set_option maxHeartbeats 4000000 in
theorem walkDecodeStream (a : Option Addr) (c : Nat) (ds : List Int) (a' : Option Addr) (c' : Nat) (es : List Int) (w : World)
    (hx : Ints .u8 w w.heap.size a ds) (hw : ∀ n ∈ ds, (Lit.int .u8 n).wf = true) (hc : ds.length ≤ c) (hcm : c ≤ maxLen)
    (hy : Ints .u8 w w.heap.size a' es) (hw' : ∀ n ∈ es, (Lit.int .u8 n).wf = true) (_hc' : es.length ≤ c') (_hcm' : c' ≤ maxLen) (hT : StrTabs w) :
    Calls Tryd.prog 4 #[.slice a ds.length c, .slice a' es.length c'] w fun e w' => e = .returned (.bool true) ∧ Below w.heap.size w w' := by
  have hb := isByte_of_wf hw
  have HBy := Lib.hid (isByte_of_wf hw')
  have HY := Lib.hid hy
  have HT := Lib.hid hT
  clear hw hT hy hw' _hc' _hcm'
  by_cases hl : ds.length ≤ 1048576 ∧ es.length ≤ 1048576
  · obtain ⟨hl, hl'⟩ := hl
    go_enter Tryd.func4, Tryd.ntmps4
    go_wp2_with fail
    refine (drawDecodeStream_any a c ds w hx hb hc hcm).mono ?_
    rintro e w1 ⟨xs, a1, c1, rfl, ⟨l1, l2, l3⟩, i1, b1⟩
    have X1 := Lib.hid i1
    have B1 := Lib.hid b1
    have Y1 := Lib.hid (HY.out.next b1)
    clear hx hb hc hcm i1 b1 HY
    obtain ⟨D, hD⟩ : ∃ D, D = decOr7 xs := ⟨_, rfl⟩
    have HD := Lib.hid hD
    have hDl : D.length ≤ 40 := by rw [hD]; exact decOr7_length xs
    have z3 : decide (D = D) = true := by simp
    clear hD
    go_wp2_with fail
    refine (decodeStream_any a1 c1 xs w1 X1.out (by unfold maxLen; omega) (HT.out.next B1.out)).mono ?_
    rw [← HD.out]
    rintro e w2 ⟨v2, cv2, rfl, r2, o2, b2⟩
    have D2 := Lib.hid (own_of_list o2).ints
    have X2 := Lib.hid (X1.out.next b2)
    have Y2 := Lib.hid (Y1.out.next b2)
    have B2 := Lib.hid (Below.next B1.out (Nat.le_refl _) b2)
    clear o2 b2 r2 X1 B1 Y1
    go_wp2_with fail
    refine (specDecodeStream_new a1 c1 xs w2 X2.out (by unfold maxLen; omega)).mono ?_
    rw [← HD.out]
    rintro e w3 ⟨g3, n3, cap3, rfl, hg3, b3⟩
    obtain rfl : D.length = n3 := hg3.len
    have U3 := Lib.hid hg3.ints
    have D3 := Lib.hid (D2.out.next b3)
    have X3 := Lib.hid (X2.out.next b3)
    have Y3 := Lib.hid (Y2.out.next b3)
    have B3 := Lib.hid (Below.next B2.out (Nat.le_refl _) b3)
    clear hg3 b3 D2 X2 B2 Y2
    go_wp2_with fail
    refine (sameInts_any v2 _ cv2 cap3 w3.heap.size w3.heap.size D D w3 D3.out U3.out (by omega)).mono ?_
    rintro e w4 ⟨rfl, n4, rfl⟩
    have B4 := Lib.hid (below_drewN B3.out n4)
    have D4 : Hid (Ints .i64 (w3.drewN n4) (w3.drewN n4).heap.size v2 D) := D3.out
    have X4 : Hid (Ints .i64 (w3.drewN n4) (w3.drewN n4).heap.size a1 xs) := X3.out
    have Y4 : Hid (Ints .u8 (w3.drewN n4) (w3.drewN n4).heap.size a' es) := Y3.out
    clear D3 X3 B3 U3 Y3
    generalize w3.drewN n4 = w4 at *
    have h5 := streamErrors_any a1 c1 xs w4 X4.out (by unfold maxLen; omega) (HT.out.next B4.out)
    cases hok : codedOk xs
    · rw [errOr7_no hok] at h5
      have H5 := Lib.hid h5
      have hd0 : D = [] := by rw [HD.out, decOr7_no hok]
      have z4 : ((D.length : Int) == 0) = true := by simp [hd0]
      clear h5 hd0 hok
      go_wp2_with fail
      refine H5.out.mono ?_
      rintro e w5 ⟨rfl, b5⟩
      have B5 := Lib.hid (Below.next B4.out (Nat.le_refl _) b5)
      clear b5
      go_wp2_with fail
      refine (alive_any w5).mono ?_
      rintro e w8 ⟨rfl, b8⟩
      have B8 := Lib.hid (Below.next B5.out (Nat.le_refl _) b8)
      clear b8
      go_wp2
      go_ret
      exact ⟨rfl, B8.out⟩
    · rw [errOr7_yes hok] at h5
      obtain ⟨E, hE⟩ : ∃ E, E = errS (prs xs) := ⟨_, rfl⟩
      rw [← hE] at h5
      have hE84 : E ≤ 84 := by rw [hE]; exact codedOk_err hok
      have H5 := Lib.hid h5
      have eD : D = decL7 xs := HD.out.trans (decOr7_yes hok)
      have hDk : strOk D = true := by rw [eD]; exact dec_ok hok
      obtain ⟨Q, hQ⟩ : ∃ Q, Q = codeL D := ⟨_, rfl⟩
      have eQ : strOr D = Q := by rw [strOr_yes hDk, hQ]
      have hQl : Q.length = 2 * D.length + 4 := by rw [hQ, codeL_length]
      have hQb : Q.all isBit = true := by rw [hQ]; exact codeL_bits (strOk_parts hDk).2
      have hDb := (strOk_parts hDk).2
      have HQ := Lib.hid (And.intro eD (And.intro hQ (And.intro eQ hQl)))
      have HE := Lib.hid (And.intro hE (And.intro hok hDk))
      have HQb := Lib.hid hQb
      have HDb := Lib.hid hDb
      have hQ84 : Q.length ≤ 84 := by omega
      have hQ4 : 4 ≤ Q.length := by omega
      clear h5 hE eD hQ eQ hQl hQb hok hDk hDb
      go_wp2_with fail
      refine H5.out.mono ?_
      rintro e w5 ⟨rfl, b5⟩
      have D5 := Lib.hid (D4.out.next b5)
      have X5 := Lib.hid (X4.out.next b5)
      have Y5 := Lib.hid (Y4.out.next b5)
      have B5 := Lib.hid (Below.next B4.out (Nat.le_refl _) b5)
      have h6 := encodeStream_any v2 cv2 D w5 D5.out (by unfold maxLen; omega) (HT.out.next B5.out)
      rw [HQ.out.2.2.1] at h6
      have H6 := Lib.hid h6
      clear h6 b5 D4 X4 B4 H5 Y4
      go_wp2_with fail
      refine H6.out.mono ?_
      rintro e w6 ⟨v6, cv6, rfl, _, o6, b6⟩
      have Q6 := Lib.hid (own_of_list o6).ints
      have D6 := Lib.hid (D5.out.next b6)
      have X6 := Lib.hid (X5.out.next b6)
      have Y6 := Lib.hid (Y5.out.next b6)
      have B6 := Lib.hid (Below.next B5.out (Nat.le_refl _) b6)
      have z5 : ((Q.length : Int) == 0) = false := by rw [beq_eq_false_iff_ne]; omega
      have I6 := Lib.hid (fun o => D6.out.next (below_new w6 o))
      clear o6 b6 D5 X5 B5 H6 Y5
      go_wp2_with (at_builtin; refine wpList_appendA (.tmp 46) (.tmp 47) w6.heap.size (some ⟨w6.heap.size, 0, none⟩) v2 0 0 D.length cv2 _ [] D rfl rfl rfl rfl (Grow.lit0 _ _ _ _ (Nat.le_refl _)) (I6.out _) rfl (by omega) (by simp) ?_; intro a7 cap7 w7 hg7 hb7 ha7; rw [Nat.zero_add, List.nil_append] at hg7; obtain ⟨g7, rfl⟩ := addr_some hg7 ha7 (by simp); have HG7 := Lib.hid hg7; have HB7 := Lib.hid ((below_new w6 (.cells #[] 3)).trans hb7); clear hg7 hb7 ha7)
      go_loopw [10] (fun i wr => ∃ (k : Nat) (zs : List Int), k ≤ D.length ∧ i = .int .i64 (k : Nat) ∧ zs.all isBit = true ∧ Grow .i64 3 wr w6.heap.size (some ⟨g7, 0, none⟩) D.length cap7 zs ∧ Below w6.heap.size w6 wr) (fun i _ => D.length - (intOf i).toNat)
      case atStart => exact ⟨0, D, Nat.zero_le _, rfl, HDb.out, HG7.out, HB7.out⟩
      case round =>
        obtain ⟨k, zs, hk, rfl, hzb, hgr, hbe⟩ := hrel
        have HG := Lib.hid hgr
        have HB := Lib.hid hbe
        have HZb := Lib.hid hzb
        clear hgr hbe hzb I6
        by_cases hgo : k < D.length ∧ k < es.length
        · obtain ⟨hk1, hk2⟩ := hgo
          obtain ⟨m, hm, hm256⟩ := byteNat HBy.out hk2
          obtain ⟨b, off, rfl, hb4, hcb⟩ := Y6.out.at_ hk2
          rw [hm] at hcb
          have hcb2 := (HB.out.cell hb4).trans hcb
          obtain ⟨r, hr⟩ : ∃ r, r = m % 2 := ⟨_, rfl⟩
          have er : (m : Int) % 2 = (r : Int) := by rw [hr]; rfl
          have hrb : isBit (r : Int) = true := by rw [hr]; exact bit_mod m
          obtain ⟨hcz, hfz⟩ := HG.out.cellS hk1
          have hbk := HG.out.blockBound.1
          have G8 := Lib.hid (HG.out.set k (r : Int))
          have B8 := Lib.hid (HB.out.setCell (p := ⟨g7, k, none⟩) hbk (.int .i64 (r : Int)))
          have Z8 := Lib.hid (set_bits7 HZb.out k hrb)
          clear hm hcb hr hrb
          go_wp2
          go_roundw
          case rel => exact ⟨k + 1, _, by omega, by go_num, Z8.out, by first | exact G8.out | (rw [er]; exact G8.out), by first | exact B8.out | (rw [er]; exact B8.out)⟩
          case measure => simp [intOf]; omega
        · obtain ⟨V7, hV7⟩ : ∃ V, V = wr := ⟨_, rfl⟩
          subst hV7
          have hzl : zs.length = D.length := HG.out.len
          have B7 := Lib.hid (Below.next B6.out (Nat.le_refl _) HB.out)
          have D7 := Lib.hid (D6.out.next HB.out)
          have X7 := Lib.hid (X6.out.next HB.out)
          have Q7 := Lib.hid (Q6.out.next HB.out)
          have Y7 := Lib.hid (Y6.out.next HB.out)
          have O7 := Lib.hid HG.out.ints
          have HZL := Lib.hid hzl
          have I7 := Lib.hid (fun o => Q7.out.next (below_new V7 o))
          clear HG HB D6 X6 Q6 Y6 B6 HG7 HB7 hzl
          have hzz : (¬ (k : Int) < (D.length : Int)) ∨ ((k : Int) < (D.length : Int) ∧ ¬ (k : Int) < (es.length : Int)) := by omega
          clear hgo
          have hfar := dec_far HE.out.2.1 HZb.out (HZL.out.trans (congrArg List.length HQ.out.1))
          rw [← HE.out.1, ← HQ.out.1, ← HQ.out.2.1] at hfar
          obtain ⟨T, hTz⟩ : ∃ T, T = strOr zs := ⟨_, rfl⟩
          rw [← hTz] at hfar
          have hT84 : T.length ≤ 84 := by rw [hTz]; exact strOr_length zs
          have HTZ := Lib.hid hTz
          have HFAR := Lib.hid hfar
          clear hfar hTz
          rcases hzz with z1 | ⟨z1, z2⟩
          all_goals
            go_wp2_with (at_builtin; refine wpList_appendA (.tmp 70) (.tmp 71) V7.heap.size (some ⟨V7.heap.size, 0, none⟩) v6 0 0 Q.length cv6 _ [] Q rfl rfl rfl rfl (Grow.lit0 _ _ _ _ (Nat.le_refl _)) (I7.out _) rfl (by omega) (by simp) ?_; intro a8 cap8 w8 hg8 hb8 ha8; rw [Nat.zero_add, List.nil_append] at hg8; obtain ⟨g8, rfl⟩ := addr_some hg8 ha8 (by simp); have HG8 := Lib.hid hg8; have HB8 := Lib.hid ((below_new V7 (.cells #[] 3)).trans hb8); clear hg8 hb8 ha8)
            go_loopw [12] (fun i wr => ∃ (k : Nat) (bs : List Int), k ≤ 2 ∧ i = .int .i64 (k : Nat) ∧ bs.all isBit = true ∧ dist Q bs ≤ k ∧ Grow .i64 3 wr V7.heap.size (some ⟨g8, 0, none⟩) Q.length cap8 bs ∧ Below V7.heap.size V7 wr) (fun i _ => 2 - (intOf i).toNat)
            case atStart => exact ⟨0, Q, by omega, rfl, HQb.out, by rw [dist_self]; omega, HG8.out, HB8.out⟩
            case round =>
              clear z1
              obtain ⟨k2, bs, hk2, rfl, hbb, hdb, hgr, hbe⟩ := hrel
              have HG := Lib.hid hgr
              have HB := Lib.hid hbe
              have HBb := Lib.hid (And.intro hbb hdb)
              clear hgr hbe hbb hdb I7 HG8 HB8
              by_cases hgo : k2 < 2 ∧ k2 < es.length
              · obtain ⟨hk3, hk4⟩ := hgo
                obtain ⟨m, hm, hm256⟩ := byteNat HBy.out hk4
                obtain ⟨b, off, rfl, hb4, hcb⟩ := Y7.out.at_ hk4
                rw [hm] at hcb
                have hcb2 := (HB.out.cell hb4).trans hcb
                obtain ⟨j, hj⟩ : ∃ j, j = m % Q.length := ⟨_, rfl⟩
                have hjQ : j < Q.length := by rw [hj]; exact Nat.mod_lt _ (by omega)
                have ej : (m : Int) % (Q.length : Int) = (j : Int) := by rw [hj]; rfl
                obtain ⟨bq, oq, rfl, hb5, hcq⟩ := Q7.out.at_ hjQ
                have hcq2 := (HB.out.cell hb5).trans hcq
                have hqb := List.all_eq_true.1 HQb.out _ (el_mem hjQ)
                obtain ⟨y, hy⟩ : ∃ y, y = el Q j := ⟨_, rfl⟩
                rw [← hy] at hcq2 hqb
                have hy01 : 0 ≤ y ∧ y ≤ 1 := by rcases isBit_cases hqb with h | h <;> rw [h] <;> decide
                obtain ⟨hy0, hy1⟩ := hy01
                obtain ⟨hcz, hfz⟩ := HG.out.cellS hjQ
                have hbk := HG.out.blockBound.1
                have G9 := Lib.hid (HG.out.set j (1 - y))
                have B9 := Lib.hid (HB.out.setCell (p := ⟨g8, j, none⟩) hbk (.int .i64 (1 - y)))
                have Z9 := Lib.hid (And.intro (set_bits7 HBb.out.1 j (flip_bit hqb)) (dist_set (xs := Q) (ys := bs) HG.out.len.symm j (1 - y)))
                clear hm hcb hj hcq hy hqb
                go_wp2
                go_roundw
                case rel => exact ⟨k2 + 1, _, by omega, by go_num, Z9.out.1, by have := Z9.out.2; have := HBb.out.2; omega, by first | exact G9.out | (rw [ej]; exact G9.out), by first | exact B9.out | (rw [ej]; exact B9.out)⟩
                case measure => simp [intOf]; omega
              · have hbk : codedOk bs = true := codedOk_mk (by rw [HG.out.len]; omega) (by rw [HG.out.len]; omega) (by rw [HG.out.len, HQ.out.2.2.2]; omega) HBb.out.1
                have hdec : decOr7 bs = D := by
                  rw [decOr7_yes hbk]
                  refine dec_near HDb.out hbk (by rw [HG.out.len, HQ.out.2.2.2]) ?_
                  have := HBb.out.2
                  rw [← HQ.out.2.1]
                  omega
                have hbl : bs.length = Q.length := HG.out.len
                have B9 := Lib.hid (Below.next B7.out (Nat.le_refl _) HB.out)
                have D9 := Lib.hid (D7.out.next HB.out)
                have X9 := Lib.hid (X7.out.next HB.out)
                have Q9 := Lib.hid (Q7.out.next HB.out)
                have O9 := Lib.hid (O7.out.next HB.out)
                have P9 := Lib.hid HG.out.ints
                have HBD := Lib.hid (And.intro hdec hbl)
                have hyy : (¬ (k2 : Int) < 2) ∨ ((k2 : Int) < 2 ∧ ¬ (k2 : Int) < (es.length : Int)) := by omega
                clear hgo HG HB D7 X7 Q7 O7 B7 Y7 hbk hdec hbl
                rcases hyy with y1 | ⟨y1, y2⟩
                all_goals
                  have h10 := hamming_any v6 a1 cv6 c1 wr.heap.size wr.heap.size Q xs wr Q9.out X9.out (Nat.le_refl _) (Nat.le_refl _)
                  rw [HFAR.out.2] at h10
                  have H10 := Lib.hid h10
                  have ze : ((E : Int) == (E : Int)) = true := by simp
                  clear h10
                  go_wp2_with fail
                  refine H10.out.mono ?_
                  rintro e w10 ⟨rfl, b10⟩
                  have B10 := Lib.hid (Below.next B9.out (Nat.le_refl _) b10)
                  have D10 := Lib.hid (D9.out.next b10)
                  have X10 := Lib.hid (X9.out.next b10)
                  have O10 := Lib.hid (O9.out.next b10)
                  have P10 := Lib.hid (P9.out.next b10)
                  have h11 := encodeStream_any (some ⟨g7, 0, none⟩) cap7 zs w10 O10.out (by have := HZL.out; unfold maxLen; omega) (HT.out.next B10.out)
                  rw [HZL.out, ← HTZ.out] at h11
                  have H11 := Lib.hid h11
                  clear b10 h11 D9 X9 O9 P9 B9 Q9 H10
                  go_wp2_with fail
                  refine H11.out.mono ?_
                  rintro e w11 ⟨v11, cv11, rfl, _, o11, b11⟩
                  have T11 := Lib.hid (own_of_list o11).ints
                  have B11 := Lib.hid (Below.next B10.out (Nat.le_refl _) b11)
                  have D11 := Lib.hid (D10.out.next b11)
                  have X11 := Lib.hid (X10.out.next b11)
                  have P11 := Lib.hid (P10.out.next b11)
                  have h12 := hamming_any v11 a1 cv11 c1 w11.heap.size w11.heap.size T xs w11 T11.out X11.out (Nat.le_refl _) (Nat.le_refl _)
                  have hge := HFAR.out.1
                  generalize distOr T xs = M at *
                  have H12 := Lib.hid h12
                  clear b11 o11 h12 D10 X10 O10 P10 B10 H11
                  go_wp2_with fail
                  refine H12.out.mono ?_
                  rintro e w12 ⟨rfl, b12⟩
                  have B12 := Lib.hid (Below.next B11.out (Nat.le_refl _) b12)
                  have D12 := Lib.hid (D11.out.next b12)
                  have P12 := Lib.hid (P11.out.next b12)
                  have h13 := decodeStream_any (some ⟨g8, 0, none⟩) cap8 bs w12 P12.out (by have := HBD.out.2; unfold maxLen; omega) (HT.out.next B12.out)
                  rw [HBD.out.2, HBD.out.1] at h13
                  have H13 := Lib.hid h13
                  clear b12 h13 D11 X11 P11 B11 H12 T11
                  go_wp2_with fail
                  refine H13.out.mono ?_
                  rintro e w13 ⟨v13, cv13, rfl, _, o13, b13⟩
                  have E13 := Lib.hid (own_of_list o13).ints
                  have B13 := Lib.hid (Below.next B12.out (Nat.le_refl _) b13)
                  have D13 := Lib.hid (D12.out.next b13)
                  clear b13 o13 D12 P12 B12 H13
                  go_wp2_with fail
                  refine (sameInts_any v13 v2 cv13 cv2 w13.heap.size w13.heap.size D D w13 E13.out D13.out (by omega)).mono ?_
                  rintro e w14 ⟨rfl, n14, rfl⟩
                  go_wp2
                  go_ret
                  exact ⟨rfl, below_drewN B13.out n14⟩
  · by_cases hl1 : ds.length ≤ 1048576
    · have hl2 : ¬ es.length ≤ 1048576 := fun h => hl ⟨hl1, h⟩
      clear hl
      go_enter Tryd.func4, Tryd.ntmps4
      go_wp2
      go_ret
      exact ⟨rfl, Below.refl _ _⟩
    · clear hl
      go_enter Tryd.func4, Tryd.ntmps4
      go_wp2
      go_ret
      exact ⟨rfl, Below.refl _ _⟩
end Go.Proofs.YtnjjblcigcblhaaDoor
