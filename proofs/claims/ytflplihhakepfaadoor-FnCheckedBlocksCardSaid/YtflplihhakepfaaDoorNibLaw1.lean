/-
  The laws of SyndromeOf and DecodeNibble, walked: they return true for every code, and write into nothing that was there. Condition: the program's tables lie in their variables.
-/
import Derived.Test.YtflplihhakepfaaDoorNibDraw
namespace Go.Proofs.YtflplihhakepfaaDoor
open Go.RowKit

/-- Block b is a row of its own that begins with the list xs. -/
def RowOf (w : World) (b cap : Nat) (xs : List Int) : Prop := ∃ f, w.rowIs b 3 cap f ∧ xs.length ≤ cap ∧ ∀ i, i < xs.length → f i = .int .i64 (el xs i)
theorem RowOf.put {w : World} {b cap k : Nat} {xs : List Int} {v : Int} (h : RowOf w b cap xs) : RowOf (w.setCell ⟨b, k, none⟩ (.int .i64 v)) b cap (xs.set k v) := by
  obtain ⟨f, h1, h2, h3⟩ := h
  refine ⟨_, h1.set k (.int .i64 v), by simpa using h2, fun i hi => ?_⟩
  have hi2 : i < xs.length := by simpa using hi
  by_cases e : i = k
  · subst e; simp [el, hi2]
  · simp only [e, if_false, h3 i hi2]
    have e2 : ¬ k = i := fun x => e x.symm
    simp [el, e2]
theorem RowOf.cell {w : World} {b cap i : Nat} {xs : List Int} (h : RowOf w b cap xs) (hi : i < xs.length) : w.cell? ⟨b, i, none⟩ = some (.int .i64 (el xs i)) := by
  obtain ⟨f, h1, h2, h3⟩ := h
  rw [h1.cell (by omega), h3 i hi]
theorem RowOf.frozen {w : World} {b cap : Nat} {xs : List Int} (h : RowOf w b cap xs) (i : Nat) : w.frozen? ⟨b, i, none⟩ = false := by
  obtain ⟨f, h1, _⟩ := h
  exact h1.frozen i
theorem RowOf.lt {w : World} {b cap : Nat} {xs : List Int} (h : RowOf w b cap xs) : b < w.heap.size := by
  obtain ⟨f, h1, _⟩ := h
  exact h1.lt
theorem RowOf.ints {w : World} {b cap : Nat} {xs : List Int} (h : RowOf w b cap xs) : Ints .i64 w w.heap.size (some ⟨b, 0, none⟩) xs := fun _ =>
  ⟨b, 0, rfl, h.lt, fun i hi => by rw [Nat.zero_add]; exact h.cell hi⟩
theorem RowOf.next {w w' : World} {b cap : Nat} {xs : List Int} (h : RowOf w b cap xs) (hb : Below w.heap.size w w') : RowOf w' b cap xs := by
  obtain ⟨f, h1, h2⟩ := h
  exact ⟨f, h1.of_block (hb.block b h1.lt), h2⟩
theorem rowOf_list {w w' : World} {a : Option Addr} {xs : List Int} (h : OwnInts .i64 3 w' w.heap.size a xs) (hne : xs ≠ []) : ∃ b cap, a = some ⟨b, 0, none⟩ ∧ w.heap.size ≤ b ∧ RowOf w' b cap xs := by
  obtain ⟨b, cap, e, h1, h2, f, h3, h4⟩ := h hne
  exact ⟨b, cap, e, h1, f, h3, h2, h4⟩
theorem rowOf_grow {w : World} {base n cap : Nat} {a : Option Addr} {xs : List Int} (h : Grow .i64 3 w base a n cap xs) (hp : 0 < n) : ∃ b, a = some ⟨b, 0, none⟩ ∧ base ≤ b ∧ RowOf w b cap xs := by
  have hl := h.len
  obtain ⟨b, f, e, h1, _, h3, h4, h5⟩ := h.row hp
  exact ⟨b, e, h1, f, h4, by omega, fun i hi => h5 i (by omega)⟩

theorem synOr_no {xs : List Int} (h : wordOk xs = false) : synOr xs = -1 := by simp [synOr, h]
theorem synOr_yes {xs : List Int} (h : wordOk xs = true) : synOr xs = (syn xs : Int) := by simp [synOr, h]
set_option maxHeartbeats 2000000 in
theorem walkSyndromeOf (a : Option Addr) (c : Nat) (ds : List Int) (w : World) (hx : Ints .u8 w w.heap.size a ds) (hw : ∀ n ∈ ds, (Lit.int .u8 n).wf = true) (hc : ds.length ≤ c) (hcm : c ≤ maxLen) (hS : SynTab w) :
    Calls Tryd.prog 4 #[.slice a ds.length c] w fun e w' => e = .returned (.bool true) ∧ Below w.heap.size w w' := by
  have hb := isByte_of_wf hw
  have HT := Lib.hid hS
  clear hw hS
  by_cases hl : ds.length ≤ 1048576
  · go_enter Tryd.func4, Tryd.ntmps4
    go_wp2_with fail
    refine (drawSyndromeOf_any a c ds w hx hb hc hcm).mono ?_
    rintro e w1 ⟨xs, a1, c1, rfl, ⟨l1, l2, l3⟩, i1, b1⟩
    have I1 := Lib.hid i1
    have B1 := Lib.hid b1
    have L1 := Lib.hid (show xs.length ≤ maxLen from Nat.le_trans l2 l3)
    clear hx hb hc hcm i1 b1 l3
    obtain ⟨R, hR⟩ : ∃ R, R = synOr xs := ⟨_, rfl⟩
    have HR := Lib.hid hR
    have z2 : (R != R) = false := by simp
    clear hR
    go_wp2_with fail
    refine (syndromeOf_any a1 c1 w1.heap.size xs w1 I1.out (Nat.le_refl _) (HT.out.next B1.out)).mono ?_
    rw [← HR.out]
    rintro e w2 ⟨rfl, b2⟩
    have I2 := Lib.hid (I1.out.next b2)
    have B2 := Lib.hid (Below.next B1.out (Nat.le_refl _) b2)
    clear b2 I1 B1
    go_wp2_with fail
    refine (specSyndromeOf_any a1 c1 w2.heap.size xs w2 I2.out L1.out).mono ?_
    rw [← HR.out]
    rintro e w3 ⟨rfl, rfl⟩
    clear z2
    cases hok : wordOk xs
    · have hRm : R = -1 := by rw [HR.out, synOr_no hok]
      subst hRm
      clear HR
      have hib := isBits_any a1 c1 w2.heap.size xs w2 I2.out L1.out
      cases hbo : bitsOk xs
      · rw [hbo] at hib
        have HIB := Lib.hid hib
        clear hib hok hbo
        go_wp2_with fail
        refine HIB.out.mono ?_
        rintro e w3 ⟨rfl, rfl⟩
        go_wp2_with fail
        refine (alive_any w2).mono ?_
        rintro e w6 ⟨rfl, b6⟩
        have B6 := Lib.hid (Below.next B2.out (Nat.le_refl _) b6)
        clear b6
        go_wp2
        go_ret
        exact ⟨rfl, B6.out⟩
      · rw [hbo] at hib
        have HIB := Lib.hid hib
        have hne : ((xs.length : Int) != 7) = true := by
          have : ¬ xs.length = 7 := fun h => by simp [wordOk, hbo, h] at hok
          simp; omega
        clear hib hok hbo
        go_wp2_with fail
        refine HIB.out.mono ?_
        rintro e w3 ⟨rfl, rfl⟩
        go_wp2_with fail
        refine (alive_any w2).mono ?_
        rintro e w6 ⟨rfl, b6⟩
        have B6 := Lib.hid (Below.next B2.out (Nat.le_refl _) b6)
        clear b6
        go_wp2
        go_ret
        exact ⟨rfl, B6.out⟩
    · obtain ⟨hlen, hbit⟩ := wordOk_parts hok
      obtain ⟨s, hs⟩ : ∃ s, s = syn xs := ⟨_, rfl⟩
      have hRm : R = (s : Int) := by rw [HR.out, synOr_yes hok, hs]
      subst hRm
      have hs8 : s < 8 := by rw [hs]; exact syn_lt xs
      have HFl := Lib.hid (show (fixW xs).length = 7 by rw [fixW_length, hlen])
      have HFo := Lib.hid (show synOr (fixW xs) = 0 by rw [synOr_yes (wordOk_mk (by rw [fixW_length, hlen]) (fix_bits hlen hbit)), syn_fix hlen hbit]; rfl)
      have HL := Lib.hid hlen
      have VA := Lib.hid (fun o : Obj => I2.out.below ((Below.refl w2.heap.size w2).alloc (Nat.le_refl _) o))
      have BA := Lib.hid (fun o : Obj => (Below.refl w2.heap.size w2).alloc (Nat.le_refl _) o)
      have HOk := Lib.hid (bitsOk_mk hbit (by omega))
      have HSy := Lib.hid hs
      clear HR hok hbit hlen hs
      by_cases hs0 : s = 0
      · subst hs0
        have HX := Lib.hid (show fixW xs = xs by rw [fixW, ← HSy.out]; rfl)
        go_wp2_with (at_builtin; refine wpList_appendA (.tmp 30) (.tmp 31) w2.heap.size (some ⟨w2.heap.size, 0, none⟩) a1 0 0 xs.length c1 w2.heap.size [] xs rfl rfl rfl rfl (Grow.lit0 _ _ _ _ (Nat.le_refl _)) (VA.out _) rfl (by omega) (by simp) ?_; intro a6 cap6 w6 hg6 hb6 _; rw [Nat.zero_add, List.nil_append] at hg6; have HB6 := Lib.hid ((BA.out _).trans hb6); obtain ⟨b6, rfl, hbb6, hrow6⟩ := rowOf_grow hg6 (by have := HL.out; omega); have HRow := Lib.hid hrow6; clear hg6 hb6 hrow6; try simp only [Nat.zero_add])
        have B6 := Lib.hid (Below.next B2.out (Nat.le_refl _) HB6.out)
        have h7 := syndromeOf_any (some ⟨b6, 0, none⟩) cap6 w6.heap.size (fixW xs) w6 (by rw [HX.out]; exact HRow.out.ints) (Nat.le_refl _) (HT.out.next B6.out)
        rw [HFo.out, HX.out] at h7
        have H7 := Lib.hid h7
        clear h7
        refine H7.out.mono ?_
        rintro e w7 ⟨rfl, b7⟩
        have B7 := Lib.hid (Below.next B6.out (Nat.le_refl _) b7)
        clear b7
        go_wp2
        go_ret
        exact ⟨rfl, B7.out⟩
      · obtain ⟨p, rfl⟩ : ∃ p, s = p + 1 := ⟨s - 1, by omega⟩
        have hp7 : p < 7 := by omega
        have hpl : p < xs.length := by have := HL.out; omega
        have HX := Lib.hid (show fixW xs = xs.set p (1 - el xs p) by rw [fixW, ← HSy.out]; simp)
        obtain ⟨x, hxx⟩ : ∃ x, x = el xs p := ⟨_, rfl⟩
        have hx01 : x = 0 ∨ x = 1 := by rw [hxx]; exact bit_cases HOk.out hpl
        have hx0 : 0 ≤ x := by omega
        have hx1 : x ≤ 1 := by omega
        rw [← hxx] at HX
        have HXx := Lib.hid hxx
        have hcast : ((p + 1 : Nat) : Int) = (p : Int) + 1 := by omega
        rw [hcast]
        clear hxx hx01 hs0 hs8 hcast
        go_wp2_with (at_builtin; refine wpList_appendA (.tmp 30) (.tmp 31) w2.heap.size (some ⟨w2.heap.size, 0, none⟩) a1 0 0 xs.length c1 w2.heap.size [] xs rfl rfl rfl rfl (Grow.lit0 _ _ _ _ (Nat.le_refl _)) (VA.out _) rfl (by omega) (by simp) ?_; intro a6 cap6 w6 hg6 hb6 _; rw [Nat.zero_add, List.nil_append] at hg6; have HB6 := Lib.hid ((BA.out _).trans hb6); obtain ⟨b6, rfl, hbb6, hrow6⟩ := rowOf_grow hg6 (by have := HL.out; omega); have hc6 := hrow6.cell hpl; have hf6 := hrow6.frozen p; rw [← HXx.out] at hc6; have HRow := Lib.hid (hrow6.put (k := p) (v := 1 - x)); rw [← HX.out] at HRow; have HB7 := Lib.hid (HB6.out.setCell (p := ⟨b6, p, none⟩) hbb6 (.int .i64 (1 - x))); clear hg6 hb6 hrow6 HB6; try simp only [Nat.zero_add])
        clear hc6 hf6
        generalize w6.setCell ⟨b6, p, none⟩ (.int .i64 (1 - x)) = w7 at *
        have B7 := Lib.hid (Below.next B2.out (Nat.le_refl _) HB7.out)
        have h7 := syndromeOf_any (some ⟨b6, 0, none⟩) cap6 w7.heap.size (fixW xs) w7 HRow.out.ints (Nat.le_refl _) (HT.out.next B7.out)
        rw [HFo.out, fixW_length] at h7
        have H7 := Lib.hid h7
        clear h7
        refine H7.out.mono ?_
        rintro e w8 ⟨rfl, b8⟩
        have B8 := Lib.hid (Below.next B7.out (Nat.le_refl _) b8)
        clear b8
        go_wp2
        go_ret
        exact ⟨rfl, B8.out⟩
  · go_enter Tryd.func4, Tryd.ntmps4
    go_wp2
    go_ret
    exact ⟨rfl, Below.refl _ _⟩

theorem decOr_no {xs : List Int} (h : wordOk xs = false) : decOr xs = [] := by simp [decOr, h]
theorem fixOr_no {xs : List Int} (h : wordOk xs = false) : fixOr xs = false := by simp [fixOr, h]
theorem dist_words {xs : List Int} (hl : xs.length = 7) (hb : xs.all isBit = true) : distOr (encW (decW xs)) xs = if syn xs = 0 then 0 else 1 := by
  have h1 := enc_bits (decW_length xs) (dec_bits hl hb)
  have hp : pairOk (encW (decW xs)) xs = true := by
    simp [pairOk, bitsOk_mk h1 (by rw [encW_length]; omega), bitsOk_mk hb (by omega), encW_length, hl]
  rw [distOr_ok hp, dist_dec hl hb]
  split <;> rfl
set_option maxHeartbeats 2000000 in
theorem walkDecodeNibble (a : Option Addr) (c : Nat) (ds : List Int) (w : World) (hx : Ints .u8 w w.heap.size a ds) (hw : ∀ n ∈ ds, (Lit.int .u8 n).wf = true) (hc : ds.length ≤ c) (hcm : c ≤ maxLen) (hS : SynTab w) (hC : CorTab w) :
    Calls Tryd.prog 5 #[.slice a ds.length c] w fun e w' => e = .returned (.bool true) ∧ Below w.heap.size w w' := by
  have hb := isByte_of_wf hw
  have HT := Lib.hid hS
  have HC := Lib.hid hC
  clear hw hS hC
  by_cases hl : ds.length ≤ 1048576
  · go_enter Tryd.func5, Tryd.ntmps5
    go_wp2_with fail
    refine (drawDecodeNibble_any a c ds w hx hb hc hcm).mono ?_
    rintro e w1 ⟨xs, a1, c1, rfl, ⟨l1, l2, l3⟩, i1, b1⟩
    have I1 := Lib.hid i1
    have B1 := Lib.hid b1
    have L1 := Lib.hid (show xs.length ≤ maxLen from Nat.le_trans l2 l3)
    clear hx hb hc hcm i1 b1 l3
    obtain ⟨D, hD⟩ : ∃ D, D = decOr xs := ⟨_, rfl⟩
    obtain ⟨R, hR⟩ : ∃ R, R = fixOr xs := ⟨_, rfl⟩
    have HD := Lib.hid hD
    have HR := Lib.hid hR
    have hDl : D.length ≤ 1000 := by rw [hD]; unfold decOr; split <;> simp [decW_length]
    have z3 : decide (D = D) = true := by simp
    clear hD hR
    go_wp2_with fail
    refine (decodeNibble_any a1 c1 w1.heap.size xs w1 I1.out (Nat.le_refl _) (HT.out.next B1.out) (HC.out.next B1.out)).mono ?_
    unfold DecPost
    rw [← HD.out, ← HR.out]
    rintro e w2 ⟨v2, cv2, rfl, _, o2, b2⟩
    have V2 := Lib.hid (own_of_list o2).ints
    have I2 := Lib.hid (I1.out.next b2)
    have B2 := Lib.hid (Below.next B1.out (Nat.le_refl _) b2)
    clear o2 b2 I1 B1
    go_wp2_with fail
    refine (specDecodeNibble_any a1 c1 xs w2 I2.out L1.out).mono ?_
    unfold DecPost
    rw [← HD.out, ← HR.out]
    rintro e w3 ⟨v3, cv3, rfl, _, o3, b3⟩
    have U3 := Lib.hid (own_of_list o3).ints
    have V3 := Lib.hid (V2.out.next b3)
    have I3 := Lib.hid (I2.out.next b3)
    have B3 := Lib.hid (Below.next B2.out (Nat.le_refl _) b3)
    clear o3 b3 V2 I2 B2
    go_wp2_with fail
    refine (sameInts_any v2 v3 cv2 cv3 w3.heap.size w3.heap.size D D w3 V3.out U3.out (by omega)).mono ?_
    rintro e w4 ⟨rfl, n4, rfl⟩
    have B4 := Lib.hid (below_drewN B3.out n4)
    have V4 : Hid (Ints .i64 (w3.drewN n4) (w3.drewN n4).heap.size v2 D) := V3.out
    have I4 : Hid (Ints .i64 (w3.drewN n4) (w3.drewN n4).heap.size a1 xs) := I3.out
    clear V3 U3 I3 B3 z3
    generalize w3.drewN n4 = w5 at *
    cases hok : wordOk xs
    · obtain rfl : R = false := by rw [HR.out, fixOr_no hok]
      obtain rfl : D = [] := by rw [HD.out, decOr_no hok]
      clear hok HR HD
      go_wp2_with fail
      refine (alive_any w5).mono ?_
      rintro e w6 ⟨rfl, b6⟩
      have B6 := Lib.hid (Below.next B4.out (Nat.le_refl _) b6)
      clear b6
      go_wp2
      go_ret
      exact ⟨rfl, B6.out⟩
    · obtain ⟨hlen, hbit⟩ := wordOk_parts hok
      obtain rfl : D = decW xs := by rw [HD.out, decOr_yes hok]
      have hz : R = decide (syn xs ≠ 0) := by rw [HR.out, fixOr_yes hok]
      have hen := encodeNibble_any v2 cv2 w5.heap.size (decW xs) w5 V4.out (Nat.le_refl _)
      rw [encOr_yes (nibOk_mk (decW_length xs) (dec_bits hlen hbit))] at hen
      have HEn := Lib.hid hen
      have HDi := Lib.hid (dist_words hlen hbit)
      rw [decW_length] at *
      have HZ := Lib.hid hz
      clear hok hlen hbit hen HD HR hz
      by_cases hs : syn xs = 0
      · obtain rfl : R = false := by rw [HZ.out]; simp [hs]
        rw [if_pos hs] at HDi
        clear hs HZ
        go_wp2_with fail
        refine HEn.out.mono ?_
        rintro e w6 ⟨v6, cv6, rfl, _, o6, b6⟩
        have V6 := Lib.hid (own_of_list o6).ints
        have I6 := Lib.hid (I4.out.next b6)
        have B6 := Lib.hid (Below.next B4.out (Nat.le_refl _) b6)
        clear o6 b6
        have h7 := hamming_any v6 a1 cv6 c1 w6.heap.size w6.heap.size (encW (decW xs)) xs w6 V6.out I6.out (Nat.le_refl _) (Nat.le_refl _)
        rw [HDi.out] at h7
        have H7 := Lib.hid h7
        clear h7
        go_wp2_with fail
        refine H7.out.mono ?_
        rintro e w7 ⟨rfl, b7⟩
        have B7 := Lib.hid (Below.next B6.out (Nat.le_refl _) b7)
        clear b7
        go_wp2
        go_ret
        exact ⟨rfl, B7.out⟩
      · obtain rfl : R = true := by rw [HZ.out]; simp [hs]
        rw [if_neg hs] at HDi
        clear hs HZ
        go_wp2_with fail
        refine HEn.out.mono ?_
        rintro e w6 ⟨v6, cv6, rfl, _, o6, b6⟩
        have V6 := Lib.hid (own_of_list o6).ints
        have I6 := Lib.hid (I4.out.next b6)
        have B6 := Lib.hid (Below.next B4.out (Nat.le_refl _) b6)
        clear o6 b6
        have h7 := hamming_any v6 a1 cv6 c1 w6.heap.size w6.heap.size (encW (decW xs)) xs w6 V6.out I6.out (Nat.le_refl _) (Nat.le_refl _)
        rw [HDi.out] at h7
        have H7 := Lib.hid h7
        clear h7
        go_wp2_with fail
        refine H7.out.mono ?_
        rintro e w7 ⟨rfl, b7⟩
        have B7 := Lib.hid (Below.next B6.out (Nat.le_refl _) b7)
        clear b7
        go_wp2
        go_ret
        exact ⟨rfl, B7.out⟩
  · go_enter Tryd.func5, Tryd.ntmps5
    go_wp2
    go_ret
    exact ⟨rfl, Below.refl _ _⟩
end Go.Proofs.YtflplihhakepfaaDoor
