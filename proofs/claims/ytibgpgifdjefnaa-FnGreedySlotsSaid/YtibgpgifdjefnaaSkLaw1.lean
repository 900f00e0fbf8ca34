/-
  The law of greedy slots, walked: it returns true for every list of bytes. Condition: bytes that can be read.
-/
import Derived.Test.YtibgpgifdjefnaaSkDraw3
import Derived.Test.YtibgpgifdjefnaaSk4
import Derived.Test.YtibgpgifdjefnaaTwo
import Derived.Test.YtibgpgifdjefnaaLawMath
namespace Go.Proofs.Ytibgpgifdjefnaa
open Go.RowKit

theorem listC_ints {L : List Int} {w w' : World} {e : Ending} (h : ListPostC L w e w') : ∃ a c, e = .returned (.slice a L.length c) ∧ Ints .i64 w' w'.heap.size a L ∧ Below w.heap.size w w' := by
  obtain ⟨a, c, h1, _, h3, h4⟩ := h
  exact ⟨a, c, h1, (own_of_list h3).ints, h4⟩
theorem Ints.upN {w w' : World} {a : Option Addr} {xs : List Int} (h : Ints .i64 w w.heap.size a xs) (hb : Below w.heap.size w w') : Ints .i64 w' w'.heap.size a xs := (h.below hb).more hb.size
/-- Greedy slots are valid, and small. -/
theorem sv_of_proper {R : List (List Bool)} {L : List Nat} (hO : TbOk R) (hp : Proper (cf R) L) (hl : L.length = R.length) (hb : Below' 10 L) : svB R (iL L) = true := by
  refine svB_yes ⟨hO, by rw [iL_len, hl], fun i hi => ?_⟩
  rw [iL_len] at hi
  refine ⟨?_, fun j hj hg => ?_⟩
  · have := hb i hi
    rw [iL_el]; omega
  · have := hp i hi j hj hg
    rw [iL_el, iL_el]; omega
theorem gr_b10 {R : List (List Bool)} (hO : TbOk R) : Below' 10 (gr (cf R) R.length) := fun i hi => by
  have h1 := gr_below (cf R) R.length i hi
  have := hO.1
  omega
theorem grL_sv {R : List (List Bool)} (h : tbB R = true) : svB R (grL R) = true := by
  rw [grL_yes h]
  exact sv_of_proper (tbB_ok h) (gr_proper _ _) (gr_len _ _) (gr_b10 (tbB_ok h))
theorem grL_case (R : List (List Bool)) : grL R = [] ∨ (tbB R = true ∧ grL R = iL (gr (cf R) R.length) ∧ 0 < R.length) := by
  cases h : tbB R
  · exact .inl (grL_no h)
  · rcases Nat.eq_zero_or_pos R.length with h0 | h0
    · refine .inl ?_
      rw [grL_yes h, h0]; rfl
    · exact .inr ⟨rfl, grL_yes h, h0⟩
theorem cfN_next (g : Nat → Nat → Bool) (i n : Nat) : cfN g i (n + 1) = cfN g i n + (g i n).toNat := rfl
set_option maxRecDepth 100000 in
set_option maxHeartbeats 8000000 in
theorem walkGreedySlots (a : Option Addr) (c : Nat) (ds : List Int) (w : World) (hx : Ints .u8 w w.heap.size a ds) (hw : ∀ n ∈ ds, (Lit.int .u8 n).wf = true) (hc : ds.length ≤ c) (hcm : c ≤ maxLen) :
    Calls Try.prog 5 #[.slice a ds.length c] w fun e w' => e = .returned (.bool true) ∧ Below w.heap.size w w' := by
  have hb := isByte_of_wf hw
  clear hw
  by_cases hl : ds.length ≤ 1048576
  · have hl' : ¬ (1048576 : Int) < (ds.length : Int) := by omega
    go_enter Try.func5, Try.ntmps5
    go_wp2_with fail
    refine (drawGreedySlots_any a c ds w hx hb hc hcm).mono ?_
    rintro e w1 ⟨at_, ct, R, rfl, h9, ht, b1⟩
    have H9 := Lib.hid h9
    have T1 := Lib.hid ht
    have B1 := Lib.hid b1
    clear hx hb hc hcm h9 ht b1 hl hl'
    go_wp2_with fail
    refine (greedySlots_any at_ ct R w1 T1.out).mono ?_
    intro e w2 h2
    obtain ⟨a2, c2, rfl, i2, b2⟩ := listC_ints h2
    have I2 := Lib.hid i2
    have T2 := Lib.hid (T1.out.next b2)
    have B2 := Lib.hid (Below.next B1.out (Nat.le_refl _) b2)
    clear h2 i2 b2 T1 B1
    go_wp2_with fail
    refine (specGreedySlots_any at_ ct R w2 T2.out (rowCap H9.out.1)).mono ?_
    intro e w3 h3
    obtain ⟨a3, c3, rfl, i3, b3⟩ := listC_ints h3
    have I3 := Lib.hid i3
    have I23 := Lib.hid (I2.out.upN b3)
    have T3 := Lib.hid (T2.out.next b3)
    have B3 := Lib.hid (Below.next B2.out (Nat.le_refl _) b3)
    clear h3 i3 b3 T2 B2 I2
    have HL := Lib.hid (Nat.le_trans (grL_len (R := R)) H9.out.1)
    go_wp2_with fail
    refine (sameInts_any a2 a3 c2 c3 w3.heap.size w3.heap.size (grL R) (grL R) w3 I23.out I3.out (by have := HL.out; omega)).mono ?_
    rw [decide_eq_true rfl]
    rintro e w4 ⟨rfl, n4, rfl⟩
    have I4 := Lib.hid (I23.out.upN (below_drewN (Below.refl _ _) n4))
    have T4 := Lib.hid (T3.out.next (below_drewN (Below.refl _ _) n4))
    have B4 := Lib.hid (below_drewN B3.out n4)
    clear I3 I23 T3 B3
    generalize w3.drewN n4 = w4 at *
    rcases grL_case R with hgr | ⟨htb, hgr, h0⟩
    · rw [hgr] at HL I4 ⊢
      go_wp2_with fail
      refine (alive_any w4).mono ?_
      rintro e w5 ⟨rfl, b5⟩
      have B5 := Lib.hid (Below.next B4.out (Nat.le_refl _) b5)
      clear b5
      go_wp2
      go_ret
      exact ⟨rfl, B5.out⟩
    · have HSv := Lib.hid (grL_sv htb)
      have HO := Lib.hid (tbB_ok htb)
      have hlen : (grL R).length = R.length := by rw [hgr, iL_len, gr_len]
      have HEl := Lib.hid (fun i (hi : i < R.length) => show ∃ s : Nat, el (grL R) i = (s : Int) ∧ s ≤ cfN (cf R) i i from ⟨nl (gr (cf R) R.length) i, by rw [hgr, iL_el], gr_le hi⟩)
      have z0 : ((R.length : Int) == 0) = false := by rw [beq_eq_false_iff_ne]; omega
      have HLen := Lib.hid hlen
      have h10 : R.length ≤ 9 := H9.out.1
      rw [hlen] at HL ⊢
      clear htb hgr hlen
      generalize grL R = S at *
      go_wp2
      clear z0
      go_loop [5] (fun i => ∃ k : Nat, k ≤ R.length ∧ i = .int .i64 (k : Int)) (fun i => R.length - (intOf i).toNat)
      case atStart => exact ⟨0, Nat.zero_le _, rfl⟩
      case round =>
        obtain ⟨i, hi, rfl⟩ := hrel
        by_cases hil : i < R.length
        · obtain ⟨s, hs, hsc⟩ := HEl.out i hil
          obtain ⟨b, off, ad, cp, rfl, hrow, _, _, hbl⟩ := T4.out.at_ hil
          rw [HO.out.2.1 i hil] at hrow
          have HBl := Lib.hid hbl
          obtain ⟨bs, offs, rfl, _, hcs⟩ := I4.out.at_ (i := i) (by rw [HLen.out]; exact hil)
          rw [hs] at hcs
          have HSc := Lib.hid hsc
          clear hbl hs hsc
          go_wp2
          go_loop [6, 7] (fun n j => ∃ (k y : Nat), k ≤ i ∧ j = .int .i64 (k : Int) ∧ n = .int .i64 (y : Int) ∧ y = cfN (cf R) i k ∧ y ≤ k) (fun _ j => i - (intOf j).toNat)
          case atStart => exact ⟨0, 0, Nat.zero_le _, rfl, rfl, rfl, Nat.le_refl _⟩
          case round =>
            obtain ⟨j, y, hj, rfl, rfl, hy, hyj⟩ := hrel
            have HY := Lib.hid hy
            clear hy
            by_cases hjl : j < i
            · obtain ⟨b2, off2, rfl, _, hc2⟩ := HBl.out.at_ (i := j) (by rw [HO.out.2.1 i hil]; omega)
              change w4.cell? _ = some (.bool (cf R i j)) at hc2
              have hjR : (j : Int) < (R.length : Int) := by omega
              cases hg : cf R i j
              · rw [hg] at hc2
                have HE := Lib.hid (show y = cfN (cf R) i (j + 1) by rw [cfN_next, hg, ← HY.out]; rfl)
                clear hg
                go_wp2
                go_round
                case rel => exact ⟨j + 1, y, by omega, by go_num, rfl, HE.out, by omega⟩
                case measure => simp [intOf]; omega
              · rw [hg] at hc2
                have HE := Lib.hid (show y + 1 = cfN (cf R) i (j + 1) by rw [cfN_next, hg, ← HY.out]; rfl)
                clear hg
                go_wp2
                go_round
                case rel => exact ⟨j + 1, y + 1, by omega, by go_num, by go_num, HE.out, by omega⟩
                case measure => simp [intOf]; omega
            · obtain rfl : i = j := by omega
              have hsy : ¬ (y : Int) < (s : Int) := by have := HY.out; have := HSc.out; omega
              have hiS : (i : Int) < (R.length : Int) := by omega
              go_wp2
              go_round
              case rel => exact ⟨i + 1, by omega, by go_num⟩
              case measure => simp [intOf]; omega
        · obtain rfl : R.length = i := by omega
          have HV := Lib.hid (slotsValid_is at_ a2 ct c2 R S true w4 T4.out I4.out HSv.out)
          rw [HLen.out] at HV
          obtain ⟨s, hs, hsc⟩ := HEl.out 0 h0
          obtain rfl : s = 0 := by simpa [cfN] using hsc
          have hcell0 := fun (w5 : World) (hb : Below w4.heap.size w4 w5) => (I4.out.upN hb).at_ (i := 0) (by rw [HLen.out]; exact h0)
          have HC0 := Lib.hid hcell0
          have h0' : (0 : Int) < (R.length : Int) := by omega
          clear hsc hcell0
          go_wp2_with (go_at_call 15; (with_reducible refine HV.out.mono ?_); rintro e w5 ⟨rfl, b5⟩
                       obtain ⟨bs, offs, rfl, _, hcs⟩ := HC0.out w5 b5
                       rw [hs, Nat.add_zero] at hcs
                       have B5 := Lib.hid (Below.next B4.out (Nat.le_refl _) b5)
                       clear b5)
          go_ret
          exact ⟨rfl, B5.out⟩
  · have hl' : (1048576 : Int) < (ds.length : Int) := by omega
    go_enter Try.func5, Try.ntmps5
    go_wp2
    go_ret
    exact ⟨rfl, Below.refl _ _⟩
end Go.Proofs.Ytibgpgifdjefnaa
