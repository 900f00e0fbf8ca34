/-
  The laws of GeneratorValid and DegreeOf, walked: they return true for every code, and write into nothing that was there.
-/
import Derived.Test.YtnmpeeailljdaaaDraw8
import Derived.Test.YtnmpeeailljdaaaRem
namespace Go.Proofs.Ytnmpeeailljdaaa
open Go.RowKit

set_option maxHeartbeats 1000000 in
theorem walkGeneratorValid (a : Option Addr) (c : Nat) (ds : List Int) (w : World) (hx : Ints .u8 w w.heap.size a ds) (hw : ∀ n ∈ ds, (Lit.int .u8 n).wf = true) (hc : ds.length ≤ c) (hcm : c ≤ maxLen) :
    Calls Try.prog 3 #[.slice a ds.length c] w fun e w' => e = .returned (.bool true) ∧ Below w.heap.size w w' := by
  have hb := isByte_of_wf hw
  clear hw
  by_cases hl : ds.length ≤ 1048576
  · go_enter Try.func3, Try.ntmps3
    go_wp2_with fail
    refine (drawGeneratorValid_any a c ds w hx hb hc hcm).mono ?_
    rintro e w1 ⟨g, ⟨hg1, hg2⟩, rfl, b1⟩
    have B1 := Lib.hid b1
    clear hx hb hc hcm b1
    have h1 := genValid_any g w1
    have h2 := specGenValid_any g w1
    have h3 := degreeOf_any g w1
    cases hg : genOk g
    · rw [hg] at h1 h2
      rw [show degOr g = -1 by simp [degOr, hg]] at h3
      have H1 := Lib.hid h1
      have H2 := Lib.hid h2
      have H3 := Lib.hid h3
      clear h1 h2 h3 hg
      go_wp2_with (first
        | (go_at_call 18; ((with_reducible refine H1.out.mono ?_); rintro e w' ⟨rfl, rfl⟩))
        | (go_at_call 19; ((with_reducible refine H2.out.mono ?_); rintro e w' ⟨rfl, rfl⟩))
        | (go_at_call 20; ((with_reducible refine H3.out.mono ?_); rintro e w' ⟨rfl, rfl⟩)))
      refine (alive_any w1).mono ?_
      rintro e w2 ⟨rfl, b2⟩
      have B2 := Lib.hid (Below.next B1.out (Nat.le_refl _) b2)
      clear b2
      go_wp2
      go_ret
      exact ⟨rfl, B2.out⟩
    · rw [hg] at h1 h2
      rw [show degOr g = (deg g : Int) by simp [degOr, hg]] at h3
      obtain ⟨g1, g2, g3⟩ := genOk_parts hg
      have h4 := genValid_any (g + 1) w1
      rw [show genOk (g + 1) = false by
        rw [Bool.eq_false_iff]; intro h; have := genOk_parts h; omega] at h4
      have hd := deg_lt hg
      have hd1 : (1 : Int) ≤ (deg g : Int) := by omega
      have hd2 : (deg g : Int) ≤ 16 := by omega
      have hodd : (g.tmod 2 == 1) = true := by
        rw [Int.tmod_eq_emod_of_nonneg (by omega), g3]; rfl
      have hodd2 : (g % 2 == 1) = true := by rw [g3]; rfl
      have H1 := Lib.hid h1
      have H2 := Lib.hid h2
      have H3 := Lib.hid h3
      have H4 := Lib.hid h4
      clear h1 h2 h3 h4 hg g3 hd
      go_wp2_with (first
        | (go_at_call 18; ((with_reducible refine H1.out.mono ?_); rintro e w' ⟨rfl, rfl⟩))
        | (go_at_call 18; ((with_reducible refine H4.out.mono ?_); rintro e w' ⟨rfl, rfl⟩))
        | (go_at_call 19; ((with_reducible refine H2.out.mono ?_); rintro e w' ⟨rfl, rfl⟩))
        | (go_at_call 20; ((with_reducible refine H3.out.mono ?_); rintro e w' ⟨rfl, rfl⟩)))
      refine (alive_any w1).mono ?_
      rintro e w2 ⟨rfl, b2⟩
      have B2 := Lib.hid (Below.next B1.out (Nat.le_refl _) b2)
      clear b2
      go_wp2
      go_ret
      exact ⟨rfl, B2.out⟩
  · go_enter Try.func3, Try.ntmps3
    go_wp2
    go_ret
    exact ⟨rfl, Below.refl _ _⟩
set_option maxHeartbeats 1000000 in
theorem walkDegreeOf (a : Option Addr) (c : Nat) (ds : List Int) (w : World) (hx : Ints .u8 w w.heap.size a ds) (hw : ∀ n ∈ ds, (Lit.int .u8 n).wf = true) (hc : ds.length ≤ c) (hcm : c ≤ maxLen) :
    Calls Try.prog 4 #[.slice a ds.length c] w fun e w' => e = .returned (.bool true) ∧ Below w.heap.size w w' := by
  have hb := isByte_of_wf hw
  clear hw
  by_cases hl : ds.length ≤ 1048576
  · go_enter Try.func4, Try.ntmps4
    go_wp2_with fail
    refine (drawDegreeOf_any a c ds w hx hb hc hcm).mono ?_
    rintro e w1 ⟨g, ⟨hg1, hg2⟩, rfl, b1⟩
    have B1 := Lib.hid b1
    clear hx hb hc hcm b1
    have h1 := genValid_any g w1
    have h2 := specDegreeOf_any g w1
    have h3 := degreeOf_any g w1
    cases hg : genOk g
    · rw [hg] at h1
      rw [show degOr g = -1 by simp [degOr, hg]] at h2 h3
      have H1 := Lib.hid h1
      have H2 := Lib.hid h2
      have H3 := Lib.hid h3
      clear h1 h2 h3 hg
      go_wp2_with (first
        | (go_at_call 18; ((with_reducible refine H1.out.mono ?_); rintro e w' ⟨rfl, rfl⟩))
        | (go_at_call 23; ((with_reducible refine H2.out.mono ?_); rintro e w' ⟨rfl, rfl⟩))
        | (go_at_call 20; ((with_reducible refine H3.out.mono ?_); rintro e w' ⟨rfl, rfl⟩)))
      refine (alive_any w1).mono ?_
      rintro e w2 ⟨rfl, b2⟩
      have B2 := Lib.hid (Below.next B1.out (Nat.le_refl _) b2)
      clear b2
      go_wp2
      go_ret
      exact ⟨rfl, B2.out⟩
    · rw [show degOr g = (deg g : Int) by simp [degOr, hg]] at h2 h3
      obtain ⟨g1, g2, g3⟩ := genOk_parts hg
      have hdp := deg_pow hg
      have hd := deg_lt hg
      obtain ⟨d, hdd⟩ : ∃ d, d = deg g := ⟨_, rfl⟩
      rw [← hdd] at hdp hd h2 h3
      obtain ⟨P, hP⟩ : ∃ P, P = 2 ^ d := ⟨_, rfl⟩
      have hPb : P ≤ 65536 := by rw [hP, hdd]; exact pow_deg hg
      rw [Nat.pow_succ, ← hP] at hdp
      have e1 : wrap64 ((2 : Int) ^ d) = (P : Int) := by rw [← cast_pow2, ← hP]; exact wrap64_in (by omega)
      have e2 : wrap64 ((2 : Int) * 2 ^ d) = ((2 * P : Nat) : Int) := by
        rw [← cast_pow2, ← hP, show (2 : Int) * (P : Int) = ((2 * P : Nat) : Int) by omega]; exact wrap64_in (by omega)
      have hd1 := hd.1
      have hd2 := hd.2
      have hne : ((d : Int) != (d : Int)) = false := by simp
      have hge : decide (wrap64 ((2 : Int) ^ d) ≤ g) = true := by rw [e1]; simp; omega
      have hlt : decide (g < wrap64 ((2 : Int) * 2 ^ d)) = true := by rw [e2]; simp; omega
      have H2 := Lib.hid h2
      have H3 := Lib.hid h3
      have HGe := Lib.hid hge
      have HLt := Lib.hid hlt
      clear h1 h2 h3 hg g3 hd hdp hP hPb hdd e1 e2 hge hlt
      go_wp2_with (first
        | (go_at_call 23; ((with_reducible refine H2.out.mono ?_); rintro e w' ⟨rfl, rfl⟩))
        | (go_at_call 20; ((with_reducible refine H3.out.mono ?_); rintro e w' ⟨rfl, rfl⟩)))
      all_goals first
        | (exfalso; have := of_decide_eq_true HGe.out; omega)
        | (go_ret; exact ⟨ret_bool HLt.out, B1.out⟩)
  · go_enter Try.func4, Try.ntmps4
    go_wp2
    go_ret
    exact ⟨rfl, Below.refl _ _⟩
end Go.Proofs.Ytnmpeeailljdaaa
