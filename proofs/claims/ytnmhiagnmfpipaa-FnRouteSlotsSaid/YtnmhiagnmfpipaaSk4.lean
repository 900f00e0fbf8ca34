/-
  What asking whether slots are valid answers, and its model. Conditions: a table and a list that can be read.
-/
import Derived.Test.YtnmhiagnmfpipaaSk3
namespace Go.Proofs.Ytnmhiagnmfpipaa
open Go.RowKit

/-- The first k slots are valid. -/
def SvRow (R : List (List Bool)) (S : List Int) (i k : Nat) : Prop := ∀ j, j < k → cf R i j = true → el S i ≠ el S j
def SvTo (R : List (List Bool)) (S : List Int) (k : Nat) : Prop := ∀ i, i < k → (0 ≤ el S i ∧ el S i ≤ 9) ∧ SvRow R S i i
def SvOk (R : List (List Bool)) (S : List Int) : Prop := TbOk R ∧ S.length = R.length ∧ SvTo R S S.length
instance (R : List (List Bool)) (S : List Int) : Decidable (SvOk R S) := by unfold SvOk SvTo SvRow; exact inferInstance
def svB (R : List (List Bool)) (S : List Int) : Bool := decide (SvOk R S)
theorem svB_no {R : List (List Bool)} {S : List Int} (h : ¬ SvOk R S) : svB R S = false := decide_eq_false h
theorem svB_yes {R : List (List Bool)} {S : List Int} (h : SvOk R S) : svB R S = true := decide_eq_true h
theorem svB_ok {R : List (List Bool)} {S : List Int} (h : svB R S = true) : SvOk R S := of_decide_eq_true h
theorem slRow_next {R : List (List Bool)} {S : List Int} {i k : Nat} (h : SvRow R S i k) (h1 : cf R i k = true → el S i ≠ el S k) : SvRow R S i (k + 1) := fun j hj => by
  by_cases e : j = k
  · subst e; exact h1
  · exact h j (by omega)
theorem slTo_next {R : List (List Bool)} {S : List Int} {k : Nat} (h : SvTo R S k) (h1 : 0 ≤ el S k ∧ el S k ≤ 9) (h2 : SvRow R S k k) : SvTo R S (k + 1) := fun j hj => by
  by_cases e : j = k
  · subst e; exact ⟨h1, h2⟩
  · exact h j (by omega)
/-- The first k slots as natural numbers. -/
def nS (S : List Int) (k : Nat) : List Nat := (List.range k).map fun j => (el S j).toNat
theorem nS_len (S : List Int) (k : Nat) : (nS S k).length = k := by simp [nS]
theorem nS_at {S : List Int} {k j : Nat} (h : j < k) : nl (nS S k) j = (el S j).toNat := by unfold nl nS; simp [h]
theorem nS_next (S : List Int) (k : Nat) : nS S (k + 1) = nS S k ++ [(el S k).toNat] := by unfold nS; rw [List.range_succ, List.map_append]; rfl
/-- Whether the slot of station k is free. -/
theorem free_row {R : List (List Bool)} {S : List Int} {k : Nat} (h : SvTo R S k) (hk : 0 ≤ el S k ∧ el S k ≤ 9) : cfFree (cf R) (nS S k) k (el S k).toNat (nS S k).length = true ↔ SvRow R S k k := by
  rw [cfFree_iff]
  constructor
  · intro h1 j hj hg e
    have h2 := h1 j (by rw [nS_len]; exact hj) hg
    rw [nS_at hj, ← e] at h2
    exact h2 rfl
  · intro h1 j hj hg e
    rw [nS_len] at hj
    rw [nS_at hj] at e
    have := (h j hj).1
    exact h1 j hj hg (by omega)
theorem btw_q (n lo hi : Int) (b : Bool) (w : World) (h : (decide (lo ≤ n) && decide (n ≤ hi)) = b) : Calls Try.prog 58 #[.int .i64 n, .int .i64 lo, .int .i64 hi] w fun e w' => e = .returned (.bool b) ∧ w' = w := (btw_is n lo hi b w h).mono fun _ _ ⟨h1, h2⟩ => ⟨h1, h2.symm⟩
set_option maxRecDepth 10000 in
set_option maxHeartbeats 2000000 in
theorem slotsValid_is (a v : Option Addr) (c c' : Nat) (R : List (List Bool)) (S : List Int) (r : Bool) (w : World) (hx : TbL w w.heap.size a R) (hv : Ints .i64 w w.heap.size v S) (hr : svB R S = r) :
    Calls Try.prog 33 #[.slice a R.length c, .slice v S.length c'] w fun e w' => e = .returned (.bool r) ∧ Below w.heap.size w w' := by
  have HC := Lib.hid (conflictSets_any a c R w hx)
  have HV := Lib.hid hv
  have HR := Lib.hid hr
  clear hx hv hr
  cases htb : tbB R
  · have HT := Lib.hid htb
    have HE := Lib.hid (svB_no (R := R) (S := S) fun h => by rw [tbB_yes h.1] at htb; cases htb)
    clear htb
    go_enter Try.func33, Try.ntmps33
    go_wp2_with fail
    refine HC.out.mono ?_
    rintro e w1 ⟨a1, n1, c1, rfl, hb, _⟩
    rw [HT.out]
    have HB := Lib.hid hb
    clear hb
    go_wp2
    go_ret
    exact ⟨ret_bool (by rw [← HR.out, HE.out]), HB.out⟩
  · have HT := Lib.hid htb
    have HO := Lib.hid (tbB_ok htb)
    have h10 : R.length ≤ 10 := HO.out.1
    clear htb
    by_cases hl : S.length = R.length
    · go_enter Try.func33, Try.ntmps33
      go_wp2_with fail
      refine HC.out.mono ?_
      rintro e w1 ⟨a1, n1, c1, rfl, hb, hi⟩
      obtain ⟨rfl, hi2⟩ := hi HT.out
      rw [HT.out]
      have HB := Lib.hid hb
      have HI := Lib.hid hi2
      have HL := Lib.hid hl
      have z : ((S.length : Int) != (R.length : Int)) = false := by simp [hl]
      clear hb hi hi2 hl
      have T0 := Lib.hid (TkA.new w1)
      have B0 := Lib.hid (alloc_belowX w1 (.cells #[.int .u16 0, .int .u16 0, .int .u16 0, .int .u16 0, .int .u16 0, .int .u16 0, .int .u16 0, .int .u16 0, .int .u16 0, .int .u16 0] 64))
      go_wp2
      clear z
      generalize w1.alloc (.cells #[.int .u16 0, .int .u16 0, .int .u16 0, .int .u16 0, .int .u16 0, .int .u16 0, .int .u16 0, .int .u16 0, .int .u16 0, .int .u16 0] 64) = W0 at T0 B0 ⊢
      go_loopw [26] (fun i wr => ∃ k : Nat, k ≤ S.length ∧ i = .int .i64 (k : Int) ∧ TkA wr w1.heap.size (tkN (nS S k)) ∧ SvTo R S k ∧ Below w1.heap.size w1 wr) (fun i _ => S.length - (intOf i).toNat)
      case atStart => exact ⟨0, Nat.zero_le _, rfl, T0.out, fun i hi => absurd hi (by omega), B0.out⟩
      case round =>
        obtain ⟨k, hk, rfl, htk, hsv, hbe⟩ := hrel
        have HK := Lib.hid htk
        have HS := Lib.hid hsv
        have HE := Lib.hid hbe
        have hk10 : k ≤ 10 := by have := HL.out; omega
        clear htk hsv hbe T0 B0
        by_cases hlt : k < S.length
        · have hltR : k < R.length := by rw [← HL.out]; exact hlt
          obtain ⟨b, off, rfl, hbb, hc⟩ := sets_at (HI.out.below HE.out) hltR
          obtain ⟨b2, off2, rfl, hb2, hc2⟩ := ((HV.out.below HB.out).below (HE.out.mono HB.out.size)).at_ hlt
          obtain ⟨x, hx⟩ : ∃ x, x = el S k := ⟨_, rfl⟩
          rw [← hx] at hc2
          by_cases hin : 0 ≤ x ∧ x ≤ 9
          · have HI1 := Lib.hid (fun m => btw_q x 0 9 true (wr.drewN m) (by simp [hin]))
            obtain ⟨c0, rfl⟩ := Int.eq_ofNat_of_zero_le hin.1
            have hc10 : c0 < 10 := by omega
            have hcs := csN_lt h10 k
            have htc := tkN_lt (L := nS S k) (c := c0) (by rw [nS_len]; omega)
            have hcc := HK.out.cell hc10
            have hfr := free_row HS.out (by rw [← hx]; exact hin)
            have hto : (el S k).toNat = c0 := by omega
            rw [hto] at hfr
            have hmt := meets_is (g := cf R) (L := nS S k) (i := k) (c := c0) (n := R.length) (by rw [nS_len]; omega)
            have hc10' : (c0 : Int) < 10 := by omega
            by_cases hf : cfFree (cf R) (nS S k) k c0 (nS S k).length = true
            · have HM := Lib.hid (fun m => setMeets_q (tkN (nS S k) c0) (csN R k) false (wr.drewN m) (by omega) (by omega) (decide_eq_false fun h => h (hmt.2 hf)))
              have HN := Lib.hid (slTo_next HS.out (by rw [← hx]; exact hin) (hfr.1 hf))
              obtain ⟨d, hd⟩ : ∃ d, d = tkN (nS S k) c0 ||| 2 ^ k := ⟨_, rfl⟩
              have HW := Lib.hid (fun W => setWith_is (tkN (nS S k) c0) k d W (by omega) (by omega) hd.symm)
              have HT2 : Hid (∀ j, j < 10 → tkN (nS S (k + 1)) j = if j = c0 then d else tkN (nS S k) j) := fun j _ => by
                rw [nS_next, hto, tkN_snoc, nS_len, hd]
              have K1 := Lib.hid (fun m => HK.out.drewN m)
              have E1 := Lib.hid (fun m => below_drewN HE.out m)
              have f3 := HK.out.frozen c0
              have K2 := Lib.hid (fun m => (HK.out.drewN m).set hc10 d HT2.out)
              have E2 := Lib.hid (fun m => (below_drewN HE.out m).setCell (p := ⟨w1.heap.size, c0, none⟩) (Nat.le_refl _) (.int .u16 (d : Int)))
              clear hfr hmt hf hd hx hto htc hcs
              generalize csN R k = C at *
              generalize tkN (nS S k) c0 = U at *
              go_wp2
              go_quiet (first
                | (go_at_call 58; with_reducible exact Calls.quiet_of_same (HI1.out _))
                | (go_at_call 59; with_reducible exact Calls.quiet_of_same (HM.out _)))
              go_wp2_with (go_at_call 57; (with_reducible refine (HW.out _).mono ?_); rintro e w4 ⟨rfl, rfl⟩)
              go_roundw
              case rel => exact ⟨k + 1, by omega, by go_num, K2.out _, HN.out, E2.out _⟩
              case measure => simp [intOf]; omega
            · have HM := Lib.hid (fun m => setMeets_q (tkN (nS S k) c0) (csN R k) true (wr.drewN m) (by omega) (by omega) (decide_eq_true fun h => hf (hmt.1 h)))
              have HX := Lib.hid (svB_no (R := R) (S := S) fun h => hf (hfr.2 (h.2.2 k hlt).2))
              have E1 := Lib.hid (fun m => below_drewN HE.out m)
              clear hfr hmt hf hx hto htc hcs
              generalize csN R k = C at *
              generalize tkN (nS S k) c0 = U at *
              go_wp2
              go_quiet (first
                | (go_at_call 58; with_reducible exact Calls.quiet_of_same (HI1.out _))
                | (go_at_call 59; with_reducible exact Calls.quiet_of_same (HM.out _)))
              go_wp2
              go_ret
              exact ⟨ret_bool (by rw [← HR.out, HX.out]), HB.out.trans ((E1.out _).mono HB.out.size)⟩
          · have HI1 := Lib.hid (fun m => btw_q x 0 9 false (wr.drewN m) (by
              rw [Bool.and_eq_false_iff, decide_eq_false_iff_not, decide_eq_false_iff_not]; omega))
            have HX := Lib.hid (svB_no (R := R) (S := S) fun h => hin (by rw [hx]; exact (h.2.2 k hlt).1))
            have E1 := Lib.hid (fun m => below_drewN HE.out m)
            clear hx hin
            generalize csN R k = C at *
            go_wp2
            go_quiet ((go_at_call 58; with_reducible exact Calls.quiet_of_same (HI1.out _)))
            go_wp2
            go_ret
            exact ⟨ret_bool (by rw [← HR.out, HX.out]), HB.out.trans ((E1.out _).mono HB.out.size)⟩
        · obtain rfl : S.length = k := by omega
          have HX := Lib.hid (svB_yes (R := R) (S := S) ⟨HO.out, HL.out, HS.out⟩)
          go_wp2
          go_ret
          exact ⟨ret_bool (by rw [← HR.out, HX.out]), HB.out.trans (HE.out.mono HB.out.size)⟩
    · have HE := Lib.hid (svB_no (R := R) (S := S) fun h => hl h.2.1)
      go_enter Try.func33, Try.ntmps33
      go_wp2_with fail
      refine HC.out.mono ?_
      rintro e w1 ⟨a1, n1, c1, rfl, hb, hi⟩
      obtain ⟨rfl, hi2⟩ := hi HT.out
      rw [HT.out]
      have HB := Lib.hid hb
      have z : ((S.length : Int) != (R.length : Int)) = true := by simp; omega
      clear hb hi hi2 hl
      go_wp2
      go_ret
      exact ⟨ret_bool (by rw [← HR.out, HE.out]), HB.out⟩
end Go.Proofs.Ytnmhiagnmfpipaa
