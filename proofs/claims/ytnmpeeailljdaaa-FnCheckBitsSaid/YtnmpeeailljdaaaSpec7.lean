/-
  What the model's CheckAppend, CheckPasses and BurstDetected answer, for all arguments. Condition: a list is no longer than a list can be.
-/
import Derived.Test.YtnmpeeailljdaaaSpec6
import Derived.Test.YtnmpeeailljdaaaBurst
namespace Go.Proofs.Ytnmpeeailljdaaa
open Go.RowKit

set_option maxHeartbeats 1000000 in
theorem specCheckAppend_any (a : Option Addr) (c : Nat) (xs : List Int) (g : Int) (w : World) (hx : Ints .i64 w w.heap.size a xs) (hl : xs.length ≤ maxLen) :
    Calls Try.prog 32 #[.slice a xs.length c, .int .i64 g] w (ListPostC (appOr g xs) w) := by
  have hbv := specBitsValid_any a c w.heap.size xs w hx hl
  have hgv := fun W : World => specGenValid_any g W
  have HAl := Lib.hid (fun o : Obj => (Below.refl w.heap.size w).alloc (Nat.le_refl _) o)
  have HX := Lib.hid hx
  clear hx
  cases hb : bitsOk xs
  · rw [hb] at hbv
    have HE := Lib.hid (show appOr g xs = [] by simp [appOr, appOk, chkOk, hb])
    have HV := Lib.hid hbv
    clear hbv hgv hb
    go_enter Try.func32, Try.ntmps32
    go_wp2_with (go_at_call 55; ((with_reducible refine HV.out.mono ?_); rintro e w' ⟨rfl, rfl⟩))
    go_ret
    rw [HE.out]
    exact listPostC_grow (Grow.lit0 _ _ _ _ (Nat.le_refl _)) (HAl.out _)
  · rw [hb] at hbv
    cases hg : genOk g
    · rw [hg] at hgv
      have HE := Lib.hid (show appOr g xs = [] by simp [appOr, appOk, chkOk, hg])
      have HV := Lib.hid hbv
      have HG := Lib.hid hgv
      clear hbv hgv hb hg
      go_enter Try.func32, Try.ntmps32
      go_wp2_with (first | (go_at_call 55; ((with_reducible refine HV.out.mono ?_); rintro e w' ⟨rfl, rfl⟩)) | (go_at_call 19; ((with_reducible refine (HG.out _).mono ?_); rintro e w' ⟨rfl, rfl⟩)))
      go_ret
      rw [HE.out]
      exact listPostC_grow (Grow.lit0 _ _ _ _ (Nat.le_refl _)) (HAl.out _)
    · rw [hg] at hgv
      obtain ⟨g1, g2, g3⟩ := genOk_parts hg
      have HV := Lib.hid hbv
      have HG := Lib.hid hgv
      have HDg := Lib.hid (fun W : World => l2Degree_any g W (by omega) g2)
      have hxl := bitsOk_length hb
      have hd1 := (deg_lt hg).1
      have hd2 := (deg_lt hg).2
      have HCk := Lib.hid (chkOr_yes (g := g) (xs := xs) (by simp [chkOk, hg, hb]))
      have HOk := Lib.hid (show chkOk g xs = true by simp [chkOk, hg, hb])
      have HKl := Lib.hid (chk_length g xs)
      have HL := Lib.hid hl
      clear hbv hgv hb hg g1 g2 g3 hl
      by_cases hlen : xs.length + deg g ≤ 1024
      · have HE := Lib.hid (show appOr g xs = xs ++ chk g xs by simp [appOr, appOk, HOk.out, hlen])
        have hgt : ¬ (1024 < (xs.length : Int) + (deg g : Int)) := by omega
        have HXa := Lib.hid (HX.out.below (HAl.out (.cells #[] 3)))
        clear hlen
        go_enter Try.func32, Try.ntmps32
        go_wp2_with (first
          | (go_at_call 55; ((with_reducible refine HV.out.mono ?_); rintro e w' ⟨rfl, rfl⟩))
          | (go_at_call 19; ((with_reducible refine (HG.out _).mono ?_); rintro e w' ⟨rfl, rfl⟩))
          | (go_at_call 49; ((with_reducible refine (HDg.out _).mono ?_); rintro e w' ⟨rfl, rfl⟩))
          | (at_builtin; refine wpList_appendA (.tmp 22) (.tmp 23) w.heap.size (some ⟨w.heap.size, 0, none⟩) a 0 0 xs.length c w.heap.size [] xs rfl rfl rfl rfl (Grow.lit0 _ _ _ _ (Nat.le_refl _)) HXa.out rfl (by omega) (by simp) ?_; intro a3 cap3 w3 hg3 hb3 hnn3; rw [Nat.zero_add, List.nil_append] at hg3; have HG3 := Lib.hid hg3; have HB3 := Lib.hid ((HAl.out _).trans hb3); have hs3 : w.heap.size ≤ w3.heap.size := Nat.le_trans (by simp) hb3.size; clear hg3 hb3 hnn3))
        refine (specCheckBits_any a c xs g w3 ((HX.out.below HB3.out).more hs3) HL.out).mono ?_
        rw [HCk.out]
        rintro e w4 ⟨v4, c4, rfl, r4, o4, b4⟩
        have HI4 := Lib.hid (own_of_list o4).ints
        have HG4 := Lib.hid (HG3.out.below b4)
        have HB4 := Lib.hid (HB3.out.trans (b4.mono hs3))
        have hs4 : w.heap.size ≤ w4.heap.size := Nat.le_trans hs3 b4.size
        have hkl : (chk g xs).length ≤ 16 := by rw [HKl.out]; exact hd2
        clear o4 b4 r4 HG3
        generalize chk g xs = K at *
        go_wp2_with (at_builtin; refine wpList_appendA (.tmp 24) (.tmp 27) w.heap.size a3 v4 xs.length cap3 K.length c4 w4.heap.size xs K rfl rfl rfl rfl HG4.out HI4.out rfl (by omega) hs4 ?_; intro a5 cap5 w5 hg5 hb5 hnn5; have HG5 := Lib.hid hg5; have HB5 := Lib.hid (HB4.out.trans hb5); clear hg5 hb5 hnn5)
        go_ret
        rw [HE.out]
        exact listPostC_grow HG5.out HB5.out
      · have HE := Lib.hid (show appOr g xs = [] by simp [appOr, appOk, hlen])
        have hgt : 1024 < (xs.length : Int) + (deg g : Int) := by omega
        clear hlen
        go_enter Try.func32, Try.ntmps32
        go_wp2_with (first
          | (go_at_call 55; ((with_reducible refine HV.out.mono ?_); rintro e w' ⟨rfl, rfl⟩))
          | (go_at_call 19; ((with_reducible refine (HG.out _).mono ?_); rintro e w' ⟨rfl, rfl⟩))
          | (go_at_call 49; ((with_reducible refine (HDg.out _).mono ?_); rintro e w' ⟨rfl, rfl⟩)))
        go_ret
        rw [HE.out]
        exact listPostC_grow (Grow.lit0 _ _ _ _ (Nat.le_refl _)) (HAl.out _)
set_option maxHeartbeats 1000000 in
theorem specCheckPasses_any (a : Option Addr) (c B : Nat) (xs : List Int) (g : Int) (w : World) (hx : Ints .i64 w B a xs) (hl : xs.length ≤ maxLen) :
    Calls Try.prog 35 #[.slice a xs.length c, .int .i64 g] w fun e w' => e = .returned (.bool (passes g xs)) ∧ w = w' := by
  have hbv := specBitsValid_any a c B xs w hx hl
  have hgv := fun W : World => specGenValid_any g W
  cases hb : bitsOk xs
  · rw [hb] at hbv
    have HE := Lib.hid (show passes g xs = false from passes_no (by simp [chkOk, hb]))
    have HV := Lib.hid hbv
    clear hbv hgv hb
    go_enter Try.func35, Try.ntmps35
    go_wp2_with (go_at_call 55; ((with_reducible refine HV.out.mono ?_); rintro e w' ⟨rfl, rfl⟩))
    go_ret
    exact ⟨ret_bool HE.out.symm, rfl⟩
  · rw [hb] at hbv
    cases hg : genOk g
    · rw [hg] at hgv
      have HE := Lib.hid (show passes g xs = false from passes_no (by simp [chkOk, hg]))
      have HV := Lib.hid hbv
      have HG := Lib.hid hgv
      clear hbv hgv hb hg
      go_enter Try.func35, Try.ntmps35
      go_wp2_with (first | (go_at_call 55; ((with_reducible refine HV.out.mono ?_); rintro e w' ⟨rfl, rfl⟩)) | (go_at_call 19; ((with_reducible refine (HG.out _).mono ?_); rintro e w' ⟨rfl, rfl⟩)))
      go_ret
      exact ⟨ret_bool HE.out.symm, rfl⟩
    · rw [hg] at hgv
      obtain ⟨g1, g2, g3⟩ := genOk_parts hg
      have HV := Lib.hid hbv
      have HG := Lib.hid hgv
      have HDg := Lib.hid (fun W : World => l2Degree_any g W (by omega) g2)
      have hxl := bitsOk_length hb
      by_cases hlen : deg g ≤ xs.length
      · have HR := Lib.hid (l2Remainder_any a c B xs g w hx (areBits_of hb) (by omega) hg)
        have HE : Hid ((((pm g.toNat (deg g) (numOf xs) : Nat) : Int) == 0) = passes g xs) := by
          show _ = _
          rw [Bool.eq_iff_iff]
          simp [passes, chkOk, hb, hg, hlen]
        have hle : (deg g : Int) ≤ (xs.length : Int) := by omega
        generalize pm g.toNat (deg g) (numOf xs) = R at *
        clear hbv hgv hb hg g1 g2 g3 hlen hx
        go_enter Try.func35, Try.ntmps35
        go_wp2_with (first
          | (go_at_call 55; ((with_reducible refine HV.out.mono ?_); rintro e w' ⟨rfl, rfl⟩))
          | (go_at_call 19; ((with_reducible refine (HG.out _).mono ?_); rintro e w' ⟨rfl, rfl⟩))
          | (go_at_call 49; ((with_reducible refine (HDg.out _).mono ?_); rintro e w' ⟨rfl, rfl⟩))
          | (go_at_call 56; ((with_reducible refine HR.out.mono ?_); rintro e w' ⟨rfl, rfl⟩)))
        go_ret
        exact ⟨ret_bool HE.out, rfl⟩
      · have HE := Lib.hid (passes_short hlen)
        have hle : ¬ ((deg g : Int) ≤ (xs.length : Int)) := by omega
        clear hbv hgv hb hg g1 g2 g3 hx
        go_enter Try.func35, Try.ntmps35
        go_wp2_with (first
          | (go_at_call 55; ((with_reducible refine HV.out.mono ?_); rintro e w' ⟨rfl, rfl⟩))
          | (go_at_call 19; ((with_reducible refine (HG.out _).mono ?_); rintro e w' ⟨rfl, rfl⟩))
          | (go_at_call 49; ((with_reducible refine (HDg.out _).mono ?_); rintro e w' ⟨rfl, rfl⟩)))
        go_ret
        exact ⟨ret_bool HE.out.symm, rfl⟩
end Go.Proofs.Ytnmpeeailljdaaa
