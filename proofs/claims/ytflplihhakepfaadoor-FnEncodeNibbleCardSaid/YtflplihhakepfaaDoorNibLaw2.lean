/-
  The laws of EncodeNibble, of two errors and of the sum of code words, walked: they return true for every code, and write into nothing that was there. Condition: the program's tables lie in their variables, where a word is looked up.
-/
import Derived.Test.YtflplihhakepfaaDoorNibLaw1
namespace Go.Proofs.YtflplihhakepfaaDoor
open Go.RowKit

theorem encOr_small (xs : List Int) : (encOr xs).length ≤ 7 := by
  unfold encOr; split <;> simp [encW_length]
set_option maxHeartbeats 2000000 in
theorem walkNibbleTwo (a : Option Addr) (c : Nat) (ds : List Int) (a' : Option Addr) (c' : Nat) (es : List Int) (w : World)
    (hx : Ints .u8 w w.heap.size a ds) (hw : ∀ n ∈ ds, (Lit.int .u8 n).wf = true) (hc : ds.length ≤ c) (hcm : c ≤ maxLen)
    (_hy : Ints .u8 w w.heap.size a' es) (_hw' : ∀ n ∈ es, (Lit.int .u8 n).wf = true) (_hc' : es.length ≤ c') (_hcm' : c' ≤ maxLen) (hS : SynTab w) (hC : CorTab w) :
    Calls Tryd.prog 9 #[.slice a ds.length c, .slice a' es.length c'] w fun e w' => e = .returned (.bool true) ∧ Below w.heap.size w w' := by
  have hb := isByte_of_wf hw
  have HT := Lib.hid hS
  have HC := Lib.hid hC
  clear hw _hy _hw' _hc' _hcm' hS hC
  by_cases hl : ds.length ≤ 1048576
  · by_cases hl' : es.length ≤ 1048576
    · go_enter Tryd.func9, Tryd.ntmps9
      go_wp2_with fail
      refine (drawEncodeNibble_any a c ds w hx hb hc hcm).mono ?_
      rintro e w1 ⟨xs, a1, c1, rfl, ⟨l1, l2, l3⟩, i1, b1⟩
      have I1 := Lib.hid i1
      have B1 := Lib.hid b1
      have L1 := Lib.hid (show xs.length ≤ maxLen from Nat.le_trans l2 l3)
      clear hx hb hc hcm i1 b1 l3
      obtain ⟨S, hS⟩ : ∃ S, S = encOr xs := ⟨_, rfl⟩
      have HS := Lib.hid hS
      have hSl : S.length ≤ 7 := by rw [hS]; exact encOr_small xs
      have z3 : decide (S = S) = true := by simp
      clear hS
      go_wp2_with fail
      refine (encodeNibble_any a1 c1 w1.heap.size xs w1 I1.out (Nat.le_refl _)).mono ?_
      rw [← HS.out]
      rintro e w2 ⟨v2, cv2, rfl, r2, o2, b2⟩
      have O2 := Lib.hid o2
      have I2 := Lib.hid (I1.out.next b2)
      have J2 := Lib.hid (I1.out.below b2)
      have B2 := Lib.hid (Below.next B1.out (Nat.le_refl _) b2)
      have s12 : w1.heap.size ≤ w2.heap.size := b2.size
      have s01 : w.heap.size ≤ w1.heap.size := B1.out.size
      clear o2 b2 I1 B1 r2
      go_wp2_with fail
      refine (specEncodeNibble_any a1 c1 w2.heap.size xs w2 I2.out L1.out).mono ?_
      rw [← HS.out]
      rintro e w3 ⟨v3, cv3, rfl, _, o3, b3⟩
      have U3 := Lib.hid (own_of_list o3).ints
      have V3 := Lib.hid ((own_of_list O2.out).next b3)
      have I3 := Lib.hid (I2.out.next b3)
      have J3 := Lib.hid (J2.out.below (b3.mono s12))
      have B3 := Lib.hid (Below.next B2.out (Nat.le_refl _) b3)
      have s23 : w2.heap.size ≤ w3.heap.size := b3.size
      clear o3 b3 I2 B2 O2
      go_wp2_with fail
      refine (sameInts_any v2 v3 cv2 cv3 w2.heap.size w3.heap.size S S w3 V3.out.ints U3.out (by omega)).mono ?_
      rintro e w4 ⟨rfl, n4, rfl⟩
      have B4 := Lib.hid (below_drewN B3.out n4)
      have V4 : Hid (Own .i64 3 (w3.drewN n4) w1.heap.size w2.heap.size v2 S) := V3.out
      have I4 : Hid (Ints .i64 (w3.drewN n4) (w3.drewN n4).heap.size a1 xs) := I3.out
      have J4 : Hid (Ints .i64 (w3.drewN n4) w1.heap.size a1 xs) := J3.out
      clear V3 U3 I3 B3 z3 J2 J3
      generalize w3.drewN n4 = w5 at *
      cases hok : nibOk xs
      · obtain rfl : S = [] := by rw [HS.out, encOr_no hok]
        clear hok HS
        go_wp2_with fail
        refine (alive_any w5).mono ?_
        rintro e w6 ⟨rfl, b6⟩
        have B6 := Lib.hid (Below.next B4.out (Nat.le_refl _) b6)
        clear b6
        go_wp2
        go_ret
        exact ⟨rfl, B6.out⟩
      · obtain ⟨hlen, hbit⟩ := nibOk_parts hok
        obtain rfl : S = encW xs := by rw [HS.out, encOr_yes hok]
        obtain ⟨b, cap, f, rfl, hb1, hb2, hcp, hrw, hf⟩ := V4.out (by intro e; have := encW_length xs; rw [e] at this; simp at this)
        have hrow : RowOf w5 b cap (encW xs) := ⟨f, hrw, hcp, hf⟩
        have hEb := enc_bits hlen hbit
        obtain ⟨i, hi⟩ : ∃ i, i = es.length % 7 := ⟨_, rfl⟩
        obtain ⟨q, hq⟩ : ∃ q, q = es.length / 7 % 6 := ⟨_, rfl⟩
        obtain ⟨j, hj⟩ : ∃ j, j = (i + 1 + q) % 7 := ⟨_, rfl⟩
        have hi7 : i < 7 := by omega
        have hq6 : q < 6 := by omega
        have hj7 : j < 7 := by omega
        have hij : i ≠ j := by omega
        have ri : (es.length : Int) % 7 = (i : Int) := by omega
        have rq : (es.length : Int) / 7 % 6 = (q : Int) := by omega
        have rj : ((i : Int) + 1 + (q : Int)) % 7 = (j : Int) := by omega
        obtain ⟨hd2, hs2⟩ := dec_two hlen hbit hi7 hj7 hij
        unfold twoW at hd2 hs2
        obtain ⟨x, hxx⟩ : ∃ x, x = el (encW xs) i := ⟨_, rfl⟩
        have hx01 : x = 0 ∨ x = 1 := by rw [hxx]; exact bit_cases (bitsOk_mk hEb (by rw [encW_length]; omega)) (by rw [encW_length]; exact hi7)
        have hEb2 := set_bits hEb (i := i) (by rw [encW_length]; exact hi7)
        rw [← hxx] at hd2 hs2 hEb2
        obtain ⟨S1, hS1⟩ : ∃ S1, S1 = (encW xs).set i (1 - x) := ⟨_, rfl⟩
        have hl1 : S1.length = 7 := by rw [hS1, List.length_set, encW_length]
        rw [← hS1] at hd2 hs2 hEb2
        obtain ⟨y, hyy⟩ : ∃ y, y = el S1 j := ⟨_, rfl⟩
        have hy01 : y = 0 ∨ y = 1 := by rw [hyy]; exact bit_cases (bitsOk_mk hEb2 (by omega)) (by omega)
        have hEb3 := set_bits hEb2 (i := j) (by omega)
        rw [← hyy] at hd2 hs2 hEb3
        obtain ⟨S2, hS2⟩ : ∃ S2, S2 = S1.set j (1 - y) := ⟨_, rfl⟩
        have hl2 : S2.length = 7 := by rw [hS2, List.length_set, hl1]
        rw [← hS2] at hd2 hs2 hEb3
        have hx0 : 0 ≤ x := by omega
        have hx1 : x ≤ 1 := by omega
        have hy0 : 0 ≤ y := by omega
        have hy1 : y ≤ 1 := by omega
        have hrow1 := hrow.put (k := i) (v := 1 - x)
        rw [← hS1] at hrow1
        have hrow2 := hrow1.put (k := j) (v := 1 - y)
        rw [← hS2] at hrow2
        have c1i := hrow.cell (i := i) (by rw [encW_length]; exact hi7)
        rw [← hxx] at c1i
        have f1i := hrow.frozen i
        have c2j := hrow1.cell (i := j) (by omega)
        rw [← hyy] at c2j
        have f2j := hrow1.frozen j
        have HB7 := Lib.hid (((Below.refl w.heap.size w5).setCell (p := ⟨b, i, none⟩) (by show w.heap.size ≤ b; omega) (.int .i64 (1 - x))).setCell (p := ⟨b, j, none⟩) (by show w.heap.size ≤ b; omega) (.int .i64 (1 - y)))
        have HK7 := Lib.hid (((Below.refl w1.heap.size w5).setCell (p := ⟨b, i, none⟩) (by show w1.heap.size ≤ b; omega) (.int .i64 (1 - x))).setCell (p := ⟨b, j, none⟩) (by show w1.heap.size ≤ b; omega) (.int .i64 (1 - y)))
        have HR2 := Lib.hid hrow2
        have HOk := Lib.hid (wordOk_mk hl2 hEb3)
        have HD2 := Lib.hid (show ¬ xs = decW S2 from fun e => hd2 e.symm)
        have HS2 := Lib.hid hs2
        have HL2 := Lib.hid hl2
        have J7 := Lib.hid (J4.out.below HK7.out)
        rw [encW_length]
        clear hok hlen hbit HS hSl hEb hi hq hj hij hxx hx01 hEb2 hyy hy01 hEb3 hd2 hs2 hrow hrow1 hrow2 hS1 hS2 hl1 hl2 hrw hf hcp V4
        go_wp2_with fail
        clear c1i f1i c2j f2j ri rq rj
        have B7 := Lib.hid (B4.out.trans HB7.out)
        clear HB7 HK7
        generalize (w5.setCell ⟨b, i, none⟩ (.int .i64 (1 - x))).setCell ⟨b, j, none⟩ (.int .i64 (1 - y)) = w7 at *
        have s17 : w1.heap.size ≤ w7.heap.size := by have := HR2.out.lt; omega
        have h8 := decodeNibble_any (some ⟨b, 0, none⟩) cv2 w7.heap.size S2 w7 HR2.out.ints (Nat.le_refl _) (HT.out.next B7.out) (HC.out.next B7.out)
        unfold DecPost at h8
        rw [HL2.out, decOr_yes HOk.out, fixOr_yes HOk.out, decW_length, decide_eq_true HS2.out] at h8
        have H8 := Lib.hid h8
        clear h8
        refine H8.out.mono ?_
        rintro e w8 ⟨v8, cv8, rfl, _, o8, b8⟩
        have V8 := Lib.hid (own_of_list o8).ints
        have J8 := Lib.hid (J7.out.below (b8.mono s17))
        have B8 := Lib.hid (Below.next B7.out (Nat.le_refl _) b8)
        clear o8 b8 H8
        have h9 := sameInts_any a1 v8 c1 cv8 w1.heap.size w8.heap.size xs (decW S2) w8 J8.out V8.out (by omega)
        rw [decide_eq_false HD2.out, decW_length] at h9
        have H9 := Lib.hid h9
        clear h9
        go_wp2_with fail
        refine H9.out.mono ?_
        rintro e w9 ⟨rfl, n9, rfl⟩
        go_wp2
        go_ret
        exact ⟨rfl, below_drewN B8.out n9⟩
    · go_enter Tryd.func9, Tryd.ntmps9
      go_wp2
      go_ret
      exact ⟨rfl, Below.refl _ _⟩
  · go_enter Tryd.func9, Tryd.ntmps9
    go_wp2
    go_ret
    exact ⟨rfl, Below.refl _ _⟩

/-- The list of four bits of a number. -/
def nibN (k : Nat) : List Int := [(k : Int) % 2, (k : Int) / 2 % 2, (k : Int) / 4 % 2, (k : Int) / 8]
theorem nibN_length (k : Nat) : (nibN k).length = 4 := rfl
theorem nibN_bits {k : Nat} (h : k < 16) : (nibN k).all isBit = true := by
  have : ∀ k, k < 16 → (nibN k).all isBit = true := by decide +kernel
  exact this k h
theorem ints_lit {w1 : World} {xs : List Int} : Ints .i64 (w1.alloc (.cells (xs.map (Value.int .i64)).toArray 3)) (w1.alloc (.cells (xs.map (Value.int .i64)).toArray 3)).heap.size (some ⟨w1.heap.size, 0, none⟩) xs := fun _ => by
  refine ⟨w1.heap.size, 0, rfl, by simp, fun i hi => ?_⟩
  rw [Nat.zero_add, cell_of_row _ _ _ _ _ _ (heap_alloc_last _ _)]
  simp [hi, el]
theorem enc_dist {xs ys : List Int} (hl : xs.length = 4) (hb : xs.all isBit = true) (hl' : ys.length = 4) (hb' : ys.all isBit = true) : ∃ d : Nat, distOr (encW xs) (encW ys) = (d : Int) ∧ (ys = xs ∨ 3 ≤ d) := by
  have hp : pairOk (encW xs) (encW ys) = true := by
    simp [pairOk, bitsOk_mk (enc_bits hl hb) (by rw [encW_length]; omega), bitsOk_mk (enc_bits hl' hb') (by rw [encW_length]; omega), encW_length]
  exact ⟨dist (encW xs) (encW ys), distOr_ok hp, enc_far hl hb hl' hb'⟩
set_option maxHeartbeats 2000000 in
theorem walkEncodeNibble (a : Option Addr) (c : Nat) (ds : List Int) (w : World) (hx : Ints .u8 w w.heap.size a ds) (hw : ∀ n ∈ ds, (Lit.int .u8 n).wf = true) (hc : ds.length ≤ c) (hcm : c ≤ maxLen) (hS : SynTab w) (hC : CorTab w) :
    Calls Tryd.prog 3 #[.slice a ds.length c] w fun e w' => e = .returned (.bool true) ∧ Below w.heap.size w w' := by
  have hb := isByte_of_wf hw
  have HT := Lib.hid hS
  have HC := Lib.hid hC
  clear hw hS hC
  by_cases hl : ds.length ≤ 1048576
  · go_enter Tryd.func3, Tryd.ntmps3
    go_wp2_with fail
    refine (drawEncodeNibble_any a c ds w hx hb hc hcm).mono ?_
    rintro e w1 ⟨xs, a1, c1, rfl, ⟨l1, l2, l3⟩, i1, b1⟩
    have I1 := Lib.hid i1
    have B1 := Lib.hid b1
    have L1 := Lib.hid (show xs.length ≤ maxLen from Nat.le_trans l2 l3)
    clear hx hb hc hcm i1 b1 l3
    obtain ⟨S, hS⟩ : ∃ S, S = encOr xs := ⟨_, rfl⟩
    have HS := Lib.hid hS
    have hSl : S.length ≤ 7 := by rw [hS]; exact encOr_small xs
    have z3 : decide (S = S) = true := by simp
    clear hS
    go_wp2_with fail
    refine (encodeNibble_any a1 c1 w1.heap.size xs w1 I1.out (Nat.le_refl _)).mono ?_
    rw [← HS.out]
    rintro e w2 ⟨v2, cv2, rfl, r2, o2, b2⟩
    have V2 := Lib.hid (own_of_list o2).ints
    have I2 := Lib.hid (I1.out.next b2)
    have B2 := Lib.hid (Below.next B1.out (Nat.le_refl _) b2)
    clear o2 b2 I1 B1 r2
    go_wp2_with fail
    refine (specEncodeNibble_any a1 c1 w2.heap.size xs w2 I2.out L1.out).mono ?_
    rw [← HS.out]
    rintro e w3 ⟨v3, cv3, rfl, _, o3, b3⟩
    have U3 := Lib.hid (own_of_list o3).ints
    have V3 := Lib.hid (V2.out.next b3)
    have I3 := Lib.hid (I2.out.next b3)
    have B3 := Lib.hid (Below.next B2.out (Nat.le_refl _) b3)
    clear o3 b3 I2 B2 V2
    go_wp2_with fail
    refine (sameInts_any v2 v3 cv2 cv3 w3.heap.size w3.heap.size S S w3 V3.out U3.out (by omega)).mono ?_
    rintro e w4 ⟨rfl, n4, rfl⟩
    have B4 := Lib.hid (below_drewN B3.out n4)
    have V4 : Hid (Ints .i64 (w3.drewN n4) (w3.drewN n4).heap.size v2 S) := V3.out
    have I4 : Hid (Ints .i64 (w3.drewN n4) (w3.drewN n4).heap.size a1 xs) := I3.out
    clear V3 U3 I3 B3 z3
    generalize w3.drewN n4 = w5 at *
    cases hok : nibOk xs
    · obtain rfl : S = [] := by rw [HS.out, encOr_no hok]
      have hib := isBits_any a1 c1 w5.heap.size xs w5 I4.out L1.out
      cases hbo : bitsOk xs
      · rw [hbo] at hib
        have HIB := Lib.hid hib
        clear hib hok hbo HS
        go_wp2_with fail
        refine HIB.out.mono ?_
        rintro e w3 ⟨rfl, rfl⟩
        go_wp2_with fail
        refine (alive_any w5).mono ?_
        rintro e w6 ⟨rfl, b6⟩
        have B6 := Lib.hid (Below.next B4.out (Nat.le_refl _) b6)
        clear b6
        go_wp2
        go_ret
        exact ⟨rfl, B6.out⟩
      · rw [hbo] at hib
        have HIB := Lib.hid hib
        have hne : ((xs.length : Int) != 4) = true := by
          have : ¬ xs.length = 4 := fun h => by simp [nibOk, hbo, h] at hok
          simp; omega
        clear hib hok hbo HS
        go_wp2_with fail
        refine HIB.out.mono ?_
        rintro e w3 ⟨rfl, rfl⟩
        go_wp2_with fail
        refine (alive_any w5).mono ?_
        rintro e w6 ⟨rfl, b6⟩
        have B6 := Lib.hid (Below.next B4.out (Nat.le_refl _) b6)
        clear b6
        go_wp2
        go_ret
        exact ⟨rfl, B6.out⟩
    · obtain ⟨hlen, hbit⟩ := nibOk_parts hok
      obtain rfl : S = encW xs := by rw [HS.out, encOr_yes hok]
      have HLn := Lib.hid hlen
      have HBt := Lib.hid hbit
      rw [encW_length] at *
      clear hok HS hSl hlen hbit
      go_wp2
      go_loopw [5] (fun i wr => ∃ k : Nat, k ≤ 16 ∧ i = .int .i64 k ∧ Ints .i64 wr wr.heap.size v2 (encW xs) ∧ Ints .i64 wr wr.heap.size a1 xs ∧ Below w.heap.size w wr) (fun i _ => 16 - (intOf i).toNat)
      case atStart => exact ⟨0, by omega, rfl, V4.out, I4.out, B4.out⟩
      case round =>
        obtain ⟨k, hk, rfl, hv, hi, hbe⟩ := hrel
        have HV := Lib.hid hv
        have HI := Lib.hid hi
        have HB := Lib.hid hbe
        clear hv hi hbe
        by_cases hlt : k < 16
        · obtain ⟨d, hd, hfar⟩ := enc_dist HLn.out HBt.out (nibN_length k) (nibN_bits hlt)
          have HN := Lib.hid (nibOk_mk (nibN_length k) (nibN_bits hlt))
          have BA := Lib.hid ((Below.refl wr.heap.size wr).alloc (Nat.le_refl _) (.cells ((nibN k).map (Value.int .i64)).toArray 3))
          have XA := Lib.hid (ints_lit (w1 := wr) (xs := nibN k))
          have he := encodeNibble_any (some ⟨wr.heap.size, 0, none⟩) 4 _ (nibN k) _ XA.out (Nat.le_refl _)
          rw [encOr_yes HN.out] at he
          have HEn := Lib.hid he
          have HD := Lib.hid hd
          have HF := Lib.hid hfar
          clear he hd hfar
          go_wp2_with fail
          refine HEn.out.mono ?_
          rintro e w6 ⟨v6, cv6, rfl, _, o6, b6⟩
          have V6 := Lib.hid (own_of_list o6).ints
          have X6 := Lib.hid (XA.out.next b6)
          have U6 := Lib.hid ((HV.out.next BA.out).next b6)
          have I6 := Lib.hid ((HI.out.next BA.out).next b6)
          have B6 := Lib.hid (Below.next (Below.next HB.out (Nat.le_refl _) BA.out) (Nat.le_refl _) b6)
          clear o6 b6 HEn BA XA
          have h7 := hamming_any v2 v6 cv2 cv6 w6.heap.size w6.heap.size (encW xs) (encW (nibN k)) w6 U6.out V6.out (Nat.le_refl _) (Nat.le_refl _)
          rw [HD.out] at h7
          have H7 := Lib.hid h7
          clear h7
          go_wp2_with fail
          refine H7.out.mono ?_
          rintro e w7 ⟨rfl, b7⟩
          have X7 := Lib.hid (X6.out.next b7)
          have U7 := Lib.hid (U6.out.next b7)
          have I7 := Lib.hid (I6.out.next b7)
          have B7 := Lib.hid (Below.next B6.out (Nat.le_refl _) b7)
          clear b7 X6 U6 I6 B6 V6
          have h8 := sameInts_any (some ⟨wr.heap.size, 0, none⟩) a1 4 c1 w7.heap.size w7.heap.size (nibN k) xs w7 X7.out I7.out (by rw [nibN_length]; omega)
          by_cases hsame : nibN k = xs
          · rw [decide_eq_true hsame] at h8
            have H8 := Lib.hid h8
            clear h8 hsame
            go_wp2_with fail
            refine H8.out.mono ?_
            rintro e w8 ⟨rfl, n8, rfl⟩
            go_wp2
            go_roundw
            case rel => exact ⟨k + 1, by omega, by go_num, U7.out, I7.out, below_drewN B7.out n8⟩
            case measure => simp [intOf]; omega
          · rw [decide_eq_false hsame] at h8
            have hd3 : 3 ≤ d := HF.out.resolve_left hsame
            have H8 := Lib.hid h8
            clear h8 hsame
            go_wp2_with fail
            refine H8.out.mono ?_
            rintro e w8 ⟨rfl, n8, rfl⟩
            go_wp2
            go_roundw
            case rel => exact ⟨k + 1, by omega, by go_num, U7.out, I7.out, below_drewN B7.out n8⟩
            case measure => simp [intOf]; omega
        · have hw := wordOk_mk (encW_length xs) (enc_bits HLn.out HBt.out)
          have h8 := decodeNibble_any v2 cv2 wr.heap.size (encW xs) wr HV.out (Nat.le_refl _) (HT.out.next HB.out) (HC.out.next HB.out)
          unfold DecPost at h8
          rw [encW_length, decOr_yes hw, fixOr_yes hw, dec_enc HLn.out HBt.out, syn_enc HLn.out HBt.out] at h8
          have H8 := Lib.hid h8
          have HSy := Lib.hid (show synOr (encW xs) = 0 by rw [synOr_yes hw, syn_enc HLn.out HBt.out]; rfl)
          have z4 : decide (xs = xs) = true := by simp
          have z5 : decide ((0 : Nat) ≠ 0) = false := by simp
          rw [z5] at H8
          clear h8 hw z5
          go_wp2_with fail
          refine H8.out.mono ?_
          rintro e w8 ⟨v8, cv8, rfl, _, o8, b8⟩
          have V8 := Lib.hid (own_of_list o8).ints
          have U8 := Lib.hid (HV.out.next b8)
          have I8 := Lib.hid (HI.out.next b8)
          have B8 := Lib.hid (Below.next HB.out (Nat.le_refl _) b8)
          clear o8 b8 H8
          have h9 := syndromeOf_any v2 cv2 w8.heap.size (encW xs) w8 U8.out (Nat.le_refl _) (HT.out.next B8.out)
          rw [HSy.out, encW_length] at h9
          have H9 := Lib.hid h9
          clear h9
          go_wp2_with fail
          refine H9.out.mono ?_
          rintro e w9 ⟨rfl, b9⟩
          have V9 := Lib.hid (V8.out.next b9)
          have I9 := Lib.hid (I8.out.next b9)
          have B9 := Lib.hid (Below.next B8.out (Nat.le_refl _) b9)
          clear b9
          go_wp2_with fail
          refine (sameInts_any v8 a1 cv8 c1 w9.heap.size w9.heap.size xs xs w9 V9.out I9.out (by omega)).mono ?_
          rintro e w10 ⟨rfl, n10, rfl⟩
          go_wp2
          go_ret
          exact ⟨rfl, below_drewN B9.out n10⟩
  · go_enter Tryd.func3, Tryd.ntmps3
    go_wp2
    go_ret
    exact ⟨rfl, Below.refl _ _⟩

end Go.Proofs.YtflplihhakepfaaDoor
