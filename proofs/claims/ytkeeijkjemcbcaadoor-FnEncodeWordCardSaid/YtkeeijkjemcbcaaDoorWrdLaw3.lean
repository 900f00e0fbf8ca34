/-
  The law of the syndromes, walked: it returns true for every code, and writes into nothing that was there. Condition: the program's four tables lie in their variables.
-/
import Derived.Test.YtkeeijkjemcbcaaDoorWrdLaw1
namespace Go.Proofs.YtkeeijkjemcbcaaDoor
open Go.RowKit

theorem encL_ofN {c : Nat → Nat} (hc : Lt16 c) : encL (ofN c 11) = ofN (enc6 c) 15 := by
  rw [encL_yes (wok_ofN hc 11)]
  exact ofN_congr (enc6_congr (wok_lt (wok_ofN hc 11)) hc fun i hi => co_ofN hi)
theorem ofN_eq {c d : Nat → Nat} {n : Nat} : ofN c n = ofN d n ↔ ∀ i, i < n → c i = d i := ⟨ofN_inj, ofN_congr⟩
theorem zero4_iff {c : Nat → Nat} : ([(syn6 c 0 : Int), syn6 c 1, syn6 c 2, syn6 c 3] = [((0 : Nat) : Int), ((0 : Nat) : Int), ((0 : Nat) : Int), ((0 : Nat) : Int)]) ↔ Zero6 c := by
  constructor
  · intro h
    simp only [List.cons.injEq, Int.natCast_inj, and_true] at h
    exact four h.1 h.2.1 h.2.2.1 h.2.2.2
  · intro h
    rw [h 0 (by omega), h 1 (by omega), h 2 (by omega), h 3 (by omega)]
theorem synL6_small (xs : List Int) : (synL6 xs).length ≤ 4 := by
  unfold synL6; split <;> simp
/-- A word's syndromes are all 0 just if it is what its data are encoded to. -/
theorem syn_same {c : Nat → Nat} (hc : Lt16 c) : ∃ b, decide ([(syn6 c 0 : Int), syn6 c 1, syn6 c 2, syn6 c 3] = [((0 : Nat) : Int), ((0 : Nat) : Int), ((0 : Nat) : Int), ((0 : Nat) : Int)]) = b ∧ decide (ofN (enc6 c) 15 = ofN c 15) = b := by
  refine ⟨_, rfl, decide_eq_decide.2 ?_⟩
  rw [zero4_iff, ofN_eq]
  constructor
  · intro h; exact (enc6_zero hc).congr h
  · intro h i hi; exact (enc6_uniq hc hc h (fun _ _ => rfl) i hi).symm
set_option maxHeartbeats 2000000 in
theorem walkWordSyndromes (a : Option Addr) (c : Nat) (ds : List Int) (w : World) (hx : Ints .u8 w w.heap.size a ds) (hw : ∀ n ∈ ds, (Lit.int .u8 n).wf = true) (hc : ds.length ≤ c) (hcm : c ≤ maxLen) (hT : Tabs2 w) (hZ : ZerTab w) (hG : GenTab w) :
    Calls Tryd.prog 4 #[.slice a ds.length c] w fun e w' => e = .returned (.bool true) ∧ Below w.heap.size w w' := by
  have hb := isByte_of_wf hw
  have HT := Lib.hid hT
  have HZ := Lib.hid hZ
  have HG := Lib.hid hG
  clear hw hT hZ hG
  by_cases hl : ds.length ≤ 1048576
  · go_enter Tryd.func4, Tryd.ntmps4
    go_wp2_with fail
    refine (drawWordSyndromes_any a c ds w hx hb hc hcm).mono ?_
    rintro e w1 ⟨xs, a1, c1, rfl, ⟨l1, l2, l3⟩, i1, b1⟩
    have X1 := Lib.hid i1
    have B1 := Lib.hid b1
    clear hx hb hc hcm i1 b1
    obtain ⟨S, hS⟩ : ∃ S, S = synL6 xs := ⟨_, rfl⟩
    have HS := Lib.hid hS
    have hSl : S.length ≤ 4 := by rw [hS]; exact synL6_small xs
    have z3 : decide (S = S) = true := by simp
    clear hS
    have h2 := wordSyndromes_any a1 c1 xs w1 X1.out (HT.out.next B1.out) (HZ.out.next B1.out)
    unfold SynPost at h2
    rw [← HS.out] at h2
    have H2 := Lib.hid h2
    have hsp := specWordSyndromes_any a1 c1 xs
    rw [← HS.out] at hsp
    have HSP := Lib.hid hsp
    clear h2 hsp
    go_wp2_with fail
    refine H2.out.mono ?_
    rintro e w2 ⟨v2, cv2, rfl, _, o2, b2⟩
    have S2 := Lib.hid (own_of_list o2).ints
    have X2 := Lib.hid (X1.out.next b2)
    have B2 := Lib.hid (Below.next B1.out (Nat.le_refl _) b2)
    clear o2 b2 X1 B1 H2
    go_wp2_with fail
    refine (HSP.out w2 X2.out (by omega)).mono ?_
    rintro e w3 ⟨v3, n3, cv3, rfl, g3, b3⟩
    obtain rfl : S.length = n3 := g3.len
    have U3 := Lib.hid g3.ints
    have S3 := Lib.hid (S2.out.next b3)
    have X3 := Lib.hid (X2.out.next b3)
    have B3 := Lib.hid (Below.next B2.out (Nat.le_refl _) b3)
    clear g3 b3 S2 X2 B2 HSP
    go_wp2_with fail
    refine (sameInts_any v2 v3 cv2 cv3 w3.heap.size w3.heap.size S S w3 S3.out U3.out (by omega)).mono ?_
    rintro e w4 ⟨rfl, n4, rfl⟩
    have B4 := Lib.hid (below_drewN B3.out n4)
    have S4 : Hid (Ints .i64 (w3.drewN n4) (w3.drewN n4).heap.size v2 S) := S3.out
    have X4 : Hid (Ints .i64 (w3.drewN n4) (w3.drewN n4).heap.size a1 xs) := X3.out
    clear S3 X3 B3 U3
    generalize w3.drewN n4 = w4 at *
    cases hok : wok 15 xs
    · obtain rfl : S = [] := by rw [HS.out, synL6_no hok]
      clear hok HS
      go_wp2_with fail
      refine (alive_any w4).mono ?_
      rintro e w8 ⟨rfl, b8⟩
      have B8 := Lib.hid (Below.next B4.out (Nat.le_refl _) b8)
      clear b8
      go_wp2
      go_ret
      exact ⟨rfl, B8.out⟩
    · have hd16 := wok_lt hok
      obtain rfl : S = [(syn6 (co xs) 0 : Int), syn6 (co xs) 1, syn6 (co xs) 2, syn6 (co xs) 3] := by rw [HS.out, synL6_yes hok]
      have hxl := (wok_parts hok).1
      have hxe := wok_eq hok
      have HE := Lib.hid (encL_ofN hd16)
      obtain ⟨r, hr1, hr2⟩ := syn_same hd16
      generalize co xs = d at *
      subst hxe
      rw [ofN_length] at *
      have hc11 : (11 : Int) ≤ (c1 : Int) := by omega
      have hc11n : 11 ≤ c1 := by omega
      have D4 := Lib.hid (X4.out.cutT (m := 11))
      rw [ofN_take _ (by omega)] at D4
      have HR1 := Lib.hid hr1
      have HR2 := Lib.hid hr2
      have HH16 := Lib.hid hd16
      clear hok HS hd16 hxl hr1 hr2 hSl l1 l2 l3
      go_wp2
      have BW := Lib.hid (fun o n => below_drewN (Below.alloc ((Below.refl w4.heap.size w4).drew) (Nat.le_refl _) o) n)
      go_region_law (first
        | (go_simp; go_at_call 15; refine H7.out.mono ?_; rintro e w7 ⟨rfl, n7, rfl⟩)
        | (go_simp; go_at_call 14; refine H6.out.mono ?_; rintro e w6 ⟨v6, cv6, rfl, _, o6, b6⟩; rw [ofN_length]; have I6 := Lib.hid (own_of_list o6).ints; have X6 := Lib.hid (X5.out.next b6); have B6 := Lib.hid (Below.next B5.out (Nat.le_refl _) b6); have h7 := sameInts_any v6 a1 cv6 c1 w6.heap.size w6.heap.size (ofN (enc6 d) 15) (ofN d 15) w6 I6.out X6.out (by rw [ofN_length]; omega); rw [ofN_length, ofN_length, HR2.out] at h7; have H7 := Lib.hid h7; clear h7 o6 b6)
        | (go_simp; go_at_call 15; refine (sameInts_any v2 (some ⟨w4.heap.size, 0, none⟩) cv2 4 w4.heap.size (w4.drew.alloc (.cells #[.int .i64 ((0 : Nat) : Int), .int .i64 ((0 : Nat) : Int), .int .i64 ((0 : Nat) : Int), .int .i64 ((0 : Nat) : Int)] 3)).heap.size [(syn6 d 0 : Int), syn6 d 1, syn6 d 2, syn6 d 3] [((0 : Nat) : Int), ((0 : Nat) : Int), ((0 : Nat) : Int), ((0 : Nat) : Int)] _ (Ints.below (w := w4.drew) S4.out (below_alloc w4.drew _)) (Grow.lit4 w4.drew w4.heap.size 0 0 0 0 (Nat.le_refl _)).ints (by simp)).mono ?_; rintro e w5 ⟨rfl, n5, rfl⟩; rw [HR1.out]; have W5 := Lib.hid (BW.out (.cells #[.int .i64 ((0 : Nat) : Int), .int .i64 ((0 : Nat) : Int), .int .i64 ((0 : Nat) : Int), .int .i64 ((0 : Nat) : Int)] 3) n5); generalize (w4.drew.alloc (.cells #[.int .i64 ((0 : Nat) : Int), .int .i64 ((0 : Nat) : Int), .int .i64 ((0 : Nat) : Int), .int .i64 ((0 : Nat) : Int)] 3)).drewN n5 = w5 at *; have D5 := Lib.hid (D4.out.next W5.out); have X5 := Lib.hid (X4.out.next W5.out); have B5 := Lib.hid (Below.next B4.out (Nat.le_refl _) W5.out); have h6 := encodeWord_any a1 c1 (ofN d 11) w5 D5.out (HT.out.next B5.out) (HG.out.next B5.out); rw [ofN_length, HE.out] at h6; have H6 := Lib.hid h6; clear h6)
        | fail)
      all_goals
        go_wp2
        go_ret
        exact ⟨rfl, below_drewN B6.out n7⟩
  · go_enter Tryd.func4, Tryd.ntmps4
    go_wp2
    go_ret
    exact ⟨rfl, Below.refl _ _⟩
end Go.Proofs.YtkeeijkjemcbcaaDoor
