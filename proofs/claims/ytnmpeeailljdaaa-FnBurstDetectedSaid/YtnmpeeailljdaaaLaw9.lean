/-
  The law of BurstDetected, walked: it returns true for every code, and writes into nothing that was there.
-/
import Derived.Test.YtnmpeeailljdaaaDraw9
import Derived.Test.YtnmpeeailljdaaaSpec8
namespace Go.Proofs.Ytnmpeeailljdaaa
open Go.RowKit

/-- Is one of the first k bits 1? -/
def someOne (bs : List Int) (k : Nat) : Bool := (bs.take k).any (fun x => x == 1)
theorem someOne_succ {bs : List Int} {k : Nat} (hk : k < bs.length) : someOne bs (k + 1) = (someOne bs k || (el bs k == 1)) := by
  unfold someOne
  rw [take_el hk, List.any_append]
  simp
theorem someOne_num {bs : List Int} (hb : bitsOk bs = true) : someOne bs bs.length = false ↔ numOf bs = 0 := by
  rw [numOf_eq_zero hb]
  unfold someOne
  rw [List.take_length, List.any_eq_false]
  constructor
  · intro h j hj
    rcases bit_cases hb hj with e | e
    · exact e
    · exact absurd (by simp [e]) (h _ (el_mem hj))
  · intro h x hx
    obtain ⟨j, hj, rfl⟩ := List.getElem_of_mem hx
    have := h j hj
    rw [el_lt hj] at this
    simp [this]
theorem burst_parts {g : Int} {xs : List Int} {i : Int} {bs : List Int} (h : burstIn g xs i bs = true) : passes g xs = true ∧ bitsOk bs = true ∧ 0 ≤ i ∧ i ≤ (xs.length : Int) - (bs.length : Int) := by
  simpa [burstIn, and_assoc] using h
theorem burst_out {g : Int} {xs : List Int} {i : Int} {bs : List Int} (h : burstIn g xs i bs = false) : burstB g xs i bs = false := by simp [burstB, h]
/-- The law's last row. -/
theorem burst_law {g : Int} {xs : List Int} {i : Int} {bs : List Int} (h : burstIn g xs i bs = true) :
    (someOne bs bs.length = false → burstB g xs i bs = false) ∧ (someOne bs bs.length = true → bs.length ≤ deg g → burstB g xs i bs = true) := by
  obtain ⟨h1, h2, h3, h4⟩ := burst_parts h
  have hk : i.toNat + bs.length ≤ xs.length := by omega
  have hs := passes_sum h1 (damage_length hk).symm
  refine ⟨fun h5 => ?_, fun h5 h6 => ?_⟩
  · simp [burstB, h, hs, burst_quiet ((someOne_num h2).1 h5)]
  · have h7 : numOf bs ≠ 0 := fun e => by rw [(someOne_num h2).2 e] at h5; cases h5
    simp [burstB, h, hs, burst_loud (passes_parts h1).2.1 h6 h7]
set_option maxHeartbeats 2000000 in
theorem walkBurstDetected (a : Option Addr) (c : Nat) (ds : List Int) (w : World) (hx : Ints .u8 w w.heap.size a ds) (hw : ∀ n ∈ ds, (Lit.int .u8 n).wf = true) (hc : ds.length ≤ c) (hcm : c ≤ maxLen) :
    Calls Try.prog 8 #[.slice a ds.length c] w fun e w' => e = .returned (.bool true) ∧ Below w.heap.size w w' := by
  have hb := isByte_of_wf hw
  clear hw
  by_cases hl : ds.length ≤ 1048576
  · go_enter Try.func8, Try.ntmps8
    go_wp2_with fail
    refine (drawBurstDetected_any a c ds w hx hb hc hcm).mono ?_
    rintro e w1 ⟨xs, a1, c1, g, i, bs, a2, c2, rfl, ⟨l1, l2, l3⟩, ⟨hg1, hg2⟩, ⟨hi1, hi2⟩, lb, i1, j1, b1⟩
    have I1 := Lib.hid i1
    have J1 := Lib.hid j1
    have B1 := Lib.hid b1
    have L3 := Lib.hid l3
    have LX := Lib.hid (show xs.length ≤ maxLen from Nat.le_trans l2 l3)
    have LB := Lib.hid (show bs.length ≤ maxLen by unfold maxLen; omega)
    clear hx hb hc hcm i1 j1 b1 l3
    have HOut := Lib.hid (fun h : burstIn g xs i bs = false => burst_out h)
    have HLaw := Lib.hid (fun h : burstIn g xs i bs = true => burst_law h)
    go_wp2_with fail
    refine (burst_any a1 a2 c1 c2 xs bs g i w1 I1.out J1.out l2 L3.out).mono ?_
    rintro e w2 ⟨rfl, b2⟩
    have I2 := Lib.hid (I1.out.next b2)
    have J2 := Lib.hid (J1.out.next b2)
    have B2 := Lib.hid (Below.next B1.out (Nat.le_refl _) b2)
    clear b2
    go_wp2_with fail
    refine (specBurst_any a1 a2 c1 c2 xs bs g i w2 I2.out J2.out LX.out LB.out).mono ?_
    rintro e w3 ⟨rfl, b3⟩
    have I3 := Lib.hid (I2.out.next b3)
    have J3 := Lib.hid (J2.out.next b3)
    have B3 := Lib.hid (Below.next B2.out (Nat.le_refl _) b3)
    clear b3 I1 J1 B1 I2 J2 B2
    generalize hR : burstB g xs i bs = R at *
    have hself : (R != R) = false := by simp
    have h4 := checkPasses_any a1 c1 xs g w3 I3.out l2 L3.out
    have h5 := fun (W : World) (hW : Ints .i64 W W.heap.size a2 bs) => isBits_any a2 c2 W.heap.size bs W hW LB.out
    -- the burst is not inside: the answer is false
    have Out : burstIn g xs i bs = false → R = false := fun h => HOut.out h
    cases hp : passes g xs
    · have hRf : R = false := Out (by simp [burstIn, hp])
      subst hRf
      rw [hp] at h4
      have H4 := Lib.hid h4
      clear h4 h5 hp Out hR
      go_wp2_with fail
      refine H4.out.mono ?_
      rintro e w4 ⟨rfl, b4⟩
      have B4 := Lib.hid (Below.next B3.out (Nat.le_refl _) b4)
      clear b4
      go_wp2_with fail
      refine (alive_any w4).mono ?_
      rintro e w5 ⟨rfl, b5⟩
      have B5 := Lib.hid (Below.next B4.out (Nat.le_refl _) b5)
      clear b5
      go_wp2
      go_ret
      exact ⟨rfl, B5.out⟩
    · rw [hp] at h4
      have H4 := Lib.hid h4
      clear h4
      cases hbb : bitsOk bs
      · have hRf : R = false := Out (by simp [burstIn, hbb])
        subst hRf
        rw [hbb] at h5
        have H5 := Lib.hid h5
        clear h5 hp hbb Out hR
        go_wp2_with fail
        refine H4.out.mono ?_
        rintro e w4 ⟨rfl, b4⟩
        have B4 := Lib.hid (Below.next B3.out (Nat.le_refl _) b4)
        have J4 := Lib.hid (J3.out.next b4)
        clear b4
        go_wp2_with (go_at_call 28; ((with_reducible refine (H5.out w4 J4.out).mono ?_); rintro e w' ⟨rfl, rfl⟩))
        refine (alive_any w4).mono ?_
        rintro e w5 ⟨rfl, b5⟩
        have B5 := Lib.hid (Below.next B4.out (Nat.le_refl _) b5)
        clear b5
        go_wp2
        go_ret
        exact ⟨rfl, B5.out⟩
      · rw [hbb] at h5
        have H5 := Lib.hid h5
        have hxl := bitsOk_length (passes_parts hp).1
        have hd := deg_lt (passes_parts hp).2.1
        have hdeg := fun W => degreeOf_any g W
        rw [show degOr g = (deg g : Int) by simp [degOr, (passes_parts hp).2.1]] at hdeg
        have HDg := Lib.hid hdeg
        clear h5 hdeg
        by_cases hneg : i < 0
        · have hRf : R = false := Out (by simp [burstIn]; intro _ _ h; omega)
          subst hRf
          clear hp hbb Out hR hd
          go_wp2_with fail
          refine H4.out.mono ?_
          rintro e w4 ⟨rfl, b4⟩
          have B4 := Lib.hid (Below.next B3.out (Nat.le_refl _) b4)
          have J4 := Lib.hid (J3.out.next b4)
          clear b4
          go_wp2_with (go_at_call 28; ((with_reducible refine (H5.out w4 J4.out).mono ?_); rintro e w' ⟨rfl, rfl⟩))
          refine (alive_any w4).mono ?_
          rintro e w5 ⟨rfl, b5⟩
          have B5 := Lib.hid (Below.next B4.out (Nat.le_refl _) b5)
          clear b5
          go_wp2
          go_ret
          exact ⟨rfl, B5.out⟩
        · by_cases hbig : (xs.length : Int) - (bs.length : Int) < i
          · have hRf : R = false := Out (by simp [burstIn]; intro _ _ h; omega)
            subst hRf
            clear hp hbb Out hR hd
            go_wp2_with fail
            refine H4.out.mono ?_
            rintro e w4 ⟨rfl, b4⟩
            have B4 := Lib.hid (Below.next B3.out (Nat.le_refl _) b4)
            have J4 := Lib.hid (J3.out.next b4)
            clear b4
            go_wp2_with (go_at_call 28; ((with_reducible refine (H5.out w4 J4.out).mono ?_); rintro e w' ⟨rfl, rfl⟩))
            refine (alive_any w4).mono ?_
            rintro e w5 ⟨rfl, b5⟩
            have B5 := Lib.hid (Below.next B4.out (Nat.le_refl _) b5)
            clear b5
            go_wp2
            go_ret
            exact ⟨rfl, B5.out⟩
          · have hin : burstIn g xs i bs = true := by simp [burstIn, hp, hbb]; omega
            have HL2 := Lib.hid (HLaw.out hin)
            clear hp hbb Out hR hin HLaw HOut
            go_wp2_with fail
            refine H4.out.mono ?_
            rintro e w4 ⟨rfl, b4⟩
            have B4 := Lib.hid (Below.next B3.out (Nat.le_refl _) b4)
            have J4 := Lib.hid (J3.out.next b4)
            clear b4
            go_wp2_with (go_at_call 28; ((with_reducible refine (H5.out w4 J4.out).mono ?_); rintro e w' ⟨rfl, rfl⟩))
            go_loop [8, 9] (fun s q => ∃ k : Nat, k ≤ bs.length ∧ q = .int .i64 k ∧ s = .bool (someOne bs k)) (fun _ q => bs.length - (intOf q).toNat)
            case atStart => exact ⟨0, Nat.zero_le _, rfl, rfl⟩
            case round =>
              obtain ⟨k, hk, rfl, rfl⟩ := hrel
              by_cases hlt : k < bs.length
              · obtain ⟨b, off, rfl, hbk, hc⟩ := J4.out.at_ hlt
                have HN := Lib.hid (someOne_succ hlt)
                cases hso : someOne bs k
                · rw [hso] at HN
                  clear hso
                  go_wp2
                  go_round
                  case rel => exact ⟨k + 1, by omega, by go_num, by rw [HN.out]; rfl⟩
                  case measure => simp [intOf]; omega
                · rw [hso] at HN
                  clear hso
                  go_wp2
                  go_round
                  case rel => exact ⟨k + 1, by omega, by go_num, by rw [HN.out]; rfl⟩
                  case measure => simp [intOf]; omega
              · obtain rfl : bs.length = k := by omega
                cases hso : someOne bs bs.length
                · have hRf : R = false := HL2.out.1 hso
                  subst hRf
                  clear hso HL2
                  go_wp2
                  go_ret
                  exact ⟨rfl, B4.out⟩
                · by_cases hsh : bs.length ≤ deg g
                  · have hRt : R = true := HL2.out.2 hso hsh
                    subst hRt
                    have hle : ¬ ((deg g : Int) < (bs.length : Int)) := by omega
                    clear hso HL2 hsh
                    go_wp2_with (go_at_call 20; ((with_reducible refine (HDg.out _).mono ?_); rintro e w' ⟨rfl, rfl⟩))
                    go_ret
                    exact ⟨rfl, B4.out⟩
                  · have hle : (deg g : Int) < (bs.length : Int) := by omega
                    clear hso HL2 hsh
                    cases R
                    all_goals
                      go_wp2_with (go_at_call 20; ((with_reducible refine (HDg.out _).mono ?_); rintro e w' ⟨rfl, rfl⟩))
                      go_ret
                      exact ⟨rfl, B4.out⟩
  · go_enter Try.func8, Try.ntmps8
    go_wp2
    go_ret
    exact ⟨rfl, Below.refl _ _⟩
end Go.Proofs.Ytnmpeeailljdaaa
