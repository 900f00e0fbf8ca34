/-
  The law of next stations, walked: it returns true for every list of bytes. Condition: bytes that can be read.
-/
import Derived.Test.YtnmhiagnmfpipaaRte10
import Derived.Test.YtnmhiagnmfpipaaRteDraw2
import Derived.BigQuiet
namespace Go.Proofs.Ytnmhiagnmfpipaa
open Go.RowKit

theorem aliveR2_from {w W : World} (hB : Below w.heap.size w W) : Calls Try.prog 18 #[] W fun e w' => e = .returned (.bool true) ∧ Below w.heap.size w w' := (alive_any W).mono fun _ _ ⟨h1, h2⟩ => ⟨h1, Below.next hB (Nat.le_refl _) h2⟩
/-- What is known of least costs that are there. -/
structure CostsAt (R : List (List Int)) (to : Nat) (S : List Int) : Prop where
  ok : TiOk R
  lt : to < R.length
  len : S.length = R.length
  is : IsD (tg R) R.length to (el S)
  dc : DcOk R.length (el S)
  eq : S = lcL R to
theorem costsAt_of {R : List (List Int)} {t : Int} {S : List Int} (hS : S = lsOr R t) (h : S.length ≠ 0) : ∃ to : Nat, t = to ∧ CostsAt R to S := by
  by_cases h1 : LsOk R t
  · obtain ⟨to, rfl, hto, hok⟩ := lsOk_cases h1
    have e : S = lcL R to := by rw [hS, lsOr_yes hok hto]
    subst e
    exact ⟨to, rfl, hok, hto, lcL_len _ _, lcL_is _ _, lcL_ok hok, rfl⟩
  · rw [hS, lsOr_no h1] at h; exact absurd rfl h
theorem ends_zero {R : List (List Int)} {f t : Int} (hS : (lsOr R t).length = 0) (h1 : 1 ≤ R.length) : ¬ EndsOk R f t := fun h => by
  have h2 : LsOk R t := ⟨h.1, h.2.2⟩
  obtain ⟨to, rfl, hto, hok⟩ := lsOk_cases h2
  rw [lsOr_yes hok hto, lcL_len] at hS
  omega
/-- A table and costs, cell by cell. -/
theorem tbl_cells {W : World} {B : Nat} {a : Option Addr} {R : List (List Int)} (h : RowsL W B a R) (hok : TiOk R) {i j : Nat} (hi : i < R.length) (hj : j < R.length) :
    ∃ b off ad cp b' off', a = some ⟨b, off, none⟩ ∧ W.cell? ⟨b, off + i, none⟩ = some (.slice ad R.length cp) ∧ ad = some ⟨b', off', none⟩ ∧ W.cell? ⟨b', off' + j, none⟩ = some (.int .i64 (tg R i j)) := by
  obtain ⟨b, off, ad, cp, e, h1, _, _, h2⟩ := h.at_ hi
  have hl := tiOk_row hok hi
  rw [hl] at h1
  obtain ⟨b', off', e', _, h3⟩ := h2.at_ (i := j) (by rw [hl]; exact hj)
  exact ⟨b, off, ad, cp, b', off', e, h1, e', h3⟩
set_option maxRecDepth 100000 in
set_option maxHeartbeats 8000000 in
theorem walkNextStation (a : Option Addr) (c : Nat) (ds : List Int) (w : World) (hx : Ints .u8 w w.heap.size a ds) (hw : ∀ n ∈ ds, (Lit.int .u8 n).wf = true) (hc : ds.length ≤ c) (hcm : c ≤ maxLen) :
    Calls Try.prog 5 #[.slice a ds.length c] w fun e w' => e = .returned (.bool true) ∧ Below w.heap.size w w' := by
  have hb := isByte_of_wf hw
  clear hw
  by_cases hl : ds.length ≤ 1048576
  · have hl' : ¬ (1048576 : Int) < (ds.length : Int) := by omega
    go_enter Try.func5, Try.ntmps5
    go_wp2_with fail
    refine (drawNextStation_any a c ds w hx hb hc hcm).mono ?_
    rintro e w1 ⟨at_, ct, R, f, t, rfl, h7, hct, ht, b1⟩
    have H7 := Lib.hid h7
    have T1 := Lib.hid ht
    have B1 := Lib.hid b1
    clear hx hb hc hcm ht b1 hl hl' hct
    have hR7 := h7.2
    clear h7
    obtain ⟨v, hv⟩ : ∃ v, v = nxOr R f t := ⟨_, rfl⟩
    have HV := Lib.hid hv
    clear hv
    go_wp2_with fail
    refine (nextStation_any at_ ct R f t w1 T1.out).mono ?_
    rw [← HV.out]
    rintro e w2 ⟨rfl, b2⟩
    have T2 := Lib.hid (T1.out.next b2)
    have B2 := Lib.hid (Below.next B1.out (Nat.le_refl _) b2)
    clear b2 T1 B1
    have zv : (v != v) = false := by simp
    go_wp2_with fail
    refine (specNextStation_any at_ ct R f t w2 T2.out (by omega)).mono ?_
    rw [← HV.out]
    rintro e w3 ⟨rfl, b3⟩
    have T3 := Lib.hid (T2.out.next b3)
    have B3 := Lib.hid (Below.next B2.out (Nat.le_refl _) b3)
    clear b3 T2 B2
    obtain ⟨S, hS⟩ : ∃ S, S = lsOr R t := ⟨_, rfl⟩
    have HS := Lib.hid hS
    clear hS
    go_wp2_with fail
    clear zv
    refine (leastCosts_any at_ ct R t w3 T3.out).mono ?_
    rw [← HS.out]
    rintro e w4 ⟨g4, c4, rfl, _, o4, b4⟩
    have G4 := Lib.hid (own_of_list o4).ints
    have T4 := Lib.hid (T3.out.next b4)
    have B4 := Lib.hid (Below.next B3.out (Nat.le_refl _) b4)
    clear o4 b4 T3 B3
    have HAL := Lib.hid (aliveR2_from B4.out)
    by_cases h0 : S.length = 0
    · have z4 : ((S.length : Int) == 0) = true := by simp [h0]
      have h0' : (S.length : Int) = 0 := by omega
      have hvm : v = -1 := by rw [HV.out, nxOr_no (ends_zero (by rw [← HS.out]; exact h0) H7.out.1)]
      have z5 : ((-1 : Int) == -1) = true := by decide
      subst hvm
      go_wp2_with (go_at_call 18; (with_reducible refine HAL.out.mono ?_); rintro e w5 ⟨rfl, h5⟩)
      go_ret
      exact ⟨rfl, h5⟩
    · have z4 : ((S.length : Int) == 0) = false := by rw [beq_eq_false_iff_ne]; omega
      have h0' : ¬ (S.length : Int) = 0 := by omega
      obtain ⟨tz, rfl, hca⟩ := costsAt_of HS.out h0
      have HCA := Lib.hid hca
      have hl := hca.len
      clear h0 hca
      rw [hl] at z4 h0' ⊢
      by_cases hf0 : f < 0
      · have d0 : decide (f < 0) = true := decide_eq_true hf0
        have hvm : v = -1 := by rw [HV.out, nxOr_no fun h => by have := h.2.1.1; omega]
        have z5 : ((-1 : Int) == -1) = true := by decide
        subst hvm
        go_wp2_with (go_at_call 18; (with_reducible refine HAL.out.mono ?_); rintro e w5 ⟨rfl, h5⟩)
        go_ret
        exact ⟨rfl, h5⟩
      · have d0 : decide (f < 0) = false := decide_eq_false hf0
        by_cases hf1 : (R.length : Int) ≤ f
        · have d1 : decide ((R.length : Int) ≤ f) = true := decide_eq_true hf1
          have hvm : v = -1 := by rw [HV.out, nxOr_no fun h => by have := h.2.1.2; omega]
          have z5 : ((-1 : Int) == -1) = true := by decide
          subst hvm
          go_wp2_with (go_at_call 18; (with_reducible refine HAL.out.mono ?_); rintro e w5 ⟨rfl, h5⟩)
          go_ret
          exact ⟨rfl, h5⟩
        · have d1 : decide ((R.length : Int) ≤ f) = false := decide_eq_false hf1
          obtain ⟨i, rfl⟩ := Int.eq_ofNat_of_zero_le (by omega : 0 ≤ f)
          have hi : i < R.length := by omega
          have hve : v = nxV (nxS (tg R) (el S) i R.length) := by rw [HV.out, nxOr_yes HCA.out.ok hi HCA.out.lt, HCA.out.eq]; rfl
          have hiI : (i : Int) < (R.length : Int) := by omega
          obtain ⟨bo, offo, rfl, _, hci⟩ := G4.out.at_ (i := i) (by rw [hl]; exact hi)
          have HI := Lib.hid hi
          have hn1 : 1 ≤ R.length := H7.out.1
          cases hnx : nxS (tg R) (el S) i R.length with
          | none =>
            rw [hnx] at hve
            have hvm : v = -1 := hve
            have hcase := (HCA.out.is.next_ex HCA.out.lt hi).1 hnx
            clear hve
            subst hvm
            by_cases hit : i = tz
            · subst hit
              have z6 : ((i : Int) == (i : Int)) = true := by simp
              go_wp2
              go_ret
              exact ⟨rfl, B4.out⟩
            · have z6 : ((i : Int) == (tz : Int)) = false := by simp; omega
              have hneg : el S i < 0 := hcase.resolve_left hit
              generalize el S i = di at *
              go_wp2
              go_ret
              exact ⟨rfl, B4.out⟩
          | some j =>
            rw [hnx] at hve
            have hvm : v = (j : Int) := hve
            obtain ⟨hj, h1, h2, h3⟩ := nxS_some hnx
            obtain ⟨b1, off1, ad1, cp1, b2, off2, rfl, hrow, rfl, hg⟩ := tbl_cells T4.out HCA.out.ok hi hj
            obtain ⟨bo2, offo2, e2, _, hcj⟩ := G4.out.at_ (i := j) (by rw [hl]; exact hj)
            injection e2 with e2
            injection e2 with e2 e3 _
            subst e2 e3
            have hjI : (j : Int) < (R.length : Int) := by omega
            have hjn : ¬ (j : Int) < 0 := by omega
            have hdj := (HCA.out.dc j hj).2
            have hgj := tiOk_in HCA.out.ok hi hj
            clear hve
            subst hvm
            generalize tg R i j = G at *
            generalize el S i = di at *
            generalize el S j = dj at *
            have r1 := wrapW (n := dj + G) (by omega)
            have r1' := wrapW' (n := dj + G) (by omega)
            have d3 : decide (0 < G) = true := decide_eq_true h1
            have z7 : (dj + G == di) = true := by simp; omega
            clear hnx hdj hgj h3
            go_wp2
            go_quiet (fail)
            go_wp2
            go_ret
            exact ⟨rfl, below_drewN B4.out _⟩
  · have hl' : (1048576 : Int) < (ds.length : Int) := by omega
    go_enter Try.func5, Try.ntmps5
    go_wp2
    go_ret
    exact ⟨rfl, Below.refl _ _⟩
end Go.Proofs.Ytnmhiagnmfpipaa
