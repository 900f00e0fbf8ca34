/-
  What the model's CheckBits, CheckAppend and CheckPasses answer, for every list and number. Condition: a list is no longer than a list can be.
-/
import Derived.Test.YtnmpeeailljdaaaSpec5
import Derived.Test.YtnmpeeailljdaaaLaw1
namespace Go.Proofs.Ytnmpeeailljdaaa
open Go.RowKit

theorem tab_zeros (g : Int) (xs : List Int) : pm g.toNat (deg g) (numOf (xs ++ zeros (deg g))) = tab g.toNat (deg g) (numOf xs) := by
  rw [numOf_append, numOf_zeros, zeros_length]; rfl
theorem digits_take {T d q : Nat} (hq : q + 1 ≤ d) : (digits T d).take (d - q) = (digits T d).take (d - (q + 1)) ++ [if T.testBit q then 1 else 0] := by
  have h1 : d - q = d - (q + 1) + 1 := by omega
  rw [h1, take_el (by rw [digits_length]; omega)]
  congr 2
  unfold digits
  rw [bitList_el _ _ _ (by omega), show d - 1 - (d - (q + 1)) = q by omega]
theorem digit_mod {T k : Nat} : ((T : Int) / 2 ^ k) % 2 = if T.testBit k then 1 else 0 := by
  rw [← cast_pow2, ← Int.natCast_ediv, Nat.testBit_eq_decide_div_mod_eq]
  generalize T / 2 ^ k = q
  rcases Nat.mod_two_eq_zero_or_one q with h | h
  · simp [h]; omega
  · simp [h]; omega
set_option maxHeartbeats 1000000 in
theorem specCheckBits_any (a : Option Addr) (c : Nat) (xs : List Int) (g : Int) (w : World) (hx : Ints .i64 w w.heap.size a xs) (hl : xs.length ≤ maxLen) :
    Calls Try.prog 27 #[.slice a xs.length c, .int .i64 g] w (ListPostC (chkOr g xs) w) := by
  have HAl := Lib.hid (fun o : Obj => (Below.refl w.heap.size w).alloc (Nat.le_refl _) o)
  have HXa := Lib.hid (fun o : Obj => (hx.below (HAl.out o)))
  have hbv := fun o : Obj => specBitsValid_any a c w.heap.size xs (w.alloc o) (HXa.out o) hl
  have hgv := fun W : World => specGenValid_any g W
  have HX := Lib.hid hx
  clear hx
  cases hb : bitsOk xs
  · rw [hb] at hbv
    have HE := Lib.hid (chkOr_no (g := g) (xs := xs) (by simp [chkOk, hb]))
    have HV := Lib.hid hbv
    clear hbv hgv hb
    go_enter Try.func27, Try.ntmps27
    go_wp2_with (go_at_call 55; ((with_reducible refine (HV.out _).mono ?_); rintro e w' ⟨rfl, rfl⟩))
    go_ret
    rw [HE.out]
    exact listPostC_grow (Grow.lit0 _ _ _ _ (Nat.le_refl _)) (HAl.out _)
  · rw [hb] at hbv
    cases hg : genOk g
    · rw [hg] at hgv
      have HE := Lib.hid (chkOr_no (g := g) (xs := xs) (by simp [chkOk, hg]))
      have HV := Lib.hid hbv
      have HG := Lib.hid hgv
      clear hbv hgv hb hg
      go_enter Try.func27, Try.ntmps27
      go_wp2_with (first | (go_at_call 55; ((with_reducible refine (HV.out _).mono ?_); rintro e w' ⟨rfl, rfl⟩)) | (go_at_call 19; ((with_reducible refine (HG.out _).mono ?_); rintro e w' ⟨rfl, rfl⟩)))
      go_ret
      rw [HE.out]
      exact listPostC_grow (Grow.lit0 _ _ _ _ (Nat.le_refl _)) (HAl.out _)
    · rw [hg] at hgv
      obtain ⟨g1, g2, g3⟩ := genOk_parts hg
      have HE := Lib.hid (chkOr_yes (g := g) (xs := xs) (by simp [chkOk, hg, hb]))
      have HV := Lib.hid hbv
      have HG := Lib.hid hgv
      have HDg := Lib.hid (fun W : World => l2Degree_any g W (by omega) g2)
      have hxl := bitsOk_length hb
      have hd1 := (deg_lt hg).1
      have hd2 := (deg_lt hg).2
      have hT := tab_lt hg (numOf xs)
      have hpd := pow_deg hg
      have hrem := fun (W : World) (A : Option Addr) (cc B : Nat) (h : Ints .i64 W B A (xs ++ zeros (deg g))) => l2Remainder_any A cc B (xs ++ zeros (deg g)) g W h (areBits_zeros (areBits_of hb) _) (by rw [List.length_append, zeros_length]; omega) hg
      rw [tab_zeros, List.length_append, zeros_length] at hrem
      obtain ⟨T, hTT⟩ : ∃ T, T = tab g.toNat (deg g) (numOf xs) := ⟨_, rfl⟩
      obtain ⟨d, hdd⟩ : ∃ d, d = deg g := ⟨_, rfl⟩
      have HK : Hid (chk g xs = digits T d) := by show _ = _; rw [hTT, hdd]; rfl
      rw [← hTT] at hrem hT
      rw [← hdd] at hrem hd1 hd2 HDg hT hpd
      have HR := Lib.hid hrem
      have hTb : T < 65536 := by omega
      clear hbv hgv hb hg g1 g2 g3 hrem hTT hdd hT hpd
      have hsz : (w.alloc (.cells #[] 3)).heap.size = w.heap.size + 1 := by simp
      have HW2 : Hid (Below w.heap.size w ((w.alloc (.cells #[] 3)).alloc (.cells #[] 3))) := ((Below.refl _ _).alloc (Nat.le_refl _) _).alloc (by simp) _
      have HX2 := Lib.hid (HX.out.below HW2.out)
      have HG0 : Hid (Grow .i64 3 ((w.alloc (.cells #[] 3)).alloc (.cells #[] 3)) (w.heap.size + 1) (some ⟨w.heap.size + 1, 0, none⟩) 0 0 []) := by
        have := Grow.lit0 .i64 3 (w.alloc (.cells #[] 3)) (w.heap.size + 1) (by simp)
        rw [hsz] at this
        exact this
      have HO0 : Hid (Grow .i64 3 ((w.alloc (.cells #[] 3)).alloc (.cells #[] 3)) w.heap.size (some ⟨w.heap.size, 0, none⟩) 0 0 []) := (Grow.lit0 .i64 3 w w.heap.size (Nat.le_refl _)).alloc _
      clear hsz
      go_enter Try.func27, Try.ntmps27
      go_wp2_with (first
        | (go_at_call 55; ((with_reducible refine (HV.out _).mono ?_); rintro e w' ⟨rfl, rfl⟩))
        | (go_at_call 19; ((with_reducible refine (HG.out _).mono ?_); rintro e w' ⟨rfl, rfl⟩))
        | (go_at_call 49; ((with_reducible refine (HDg.out _).mono ?_); rintro e w' ⟨rfl, rfl⟩))
        | (at_builtin; refine wpList_appendA (.tmp 21) (.tmp 22) (w.heap.size + 1) (some ⟨w.heap.size + 1, 0, none⟩) a 0 0 xs.length c w.heap.size [] xs rfl rfl rfl rfl HG0.out HX2.out rfl (by omega) (by simp) ?_; intro a3 cap3 w3 hg3 hb3 hnn3; rw [Nat.zero_add, List.nil_append] at hg3; have HG3 := Lib.hid hg3; have HB3 := Lib.hid hb3; have hs3 : w.heap.size + 1 ≤ w3.heap.size := Nat.le_trans (by simp) hb3.size; clear hg3 hb3 hnn3)
        | (at_builtin; refine wpList_appendZ (.tmp 23) (.tmp 24) (w.heap.size + 1) a3 xs.length cap3 d xs rfl rfl rfl rfl HG3.out (by omega) (by omega) hs3 ?_; intro a4 cap4 w4 hg4 hb4 hnn4; have HG4 := Lib.hid hg4; have HB4 := Lib.hid (HB3.out.trans hb4); clear hg4 hb4 hnn4))
      refine (HR.out w4 a4 cap4 w4.heap.size HG4.out.ints).mono ?_
      rintro e w' ⟨rfl, rfl⟩
      have HO4 : Hid (Grow .i64 3 w4 w.heap.size (some ⟨w.heap.size, 0, none⟩) 0 0 []) := ⟨rfl, .inr ⟨w.heap.size, 0, #[], rfl, Nat.le_refl _, (HB4.out.block w.heap.size (by omega)).trans (heap_prev2 _ _ _), Nat.le_refl _, by simp, by simp, rfl⟩⟩
      have HW4 : Hid (Below w.heap.size w w4) := HW2.out.trans (HB4.out.mono (by omega))
      clear HG0 HO0 HX2 HG3 HB3 HG4 HB4 HR HV HG HDg hs3
      go_wp2
      go_loopw [5, 8] (fun s i wr => ∃ (q : Nat) (v : Option Addr) (cap : Nat), q ≤ d ∧ Idx q i ∧ s = .slice v (d - q) cap ∧ Grow .i64 3 wr w.heap.size v (d - q) cap ((digits T d).take (d - q)) ∧ Below w.heap.size w wr) (fun _ i _ => (intOf i + 1).toNat)
      case atStart => exact ⟨d, _, _, Nat.le_refl _, idx_pred _, by rw [Nat.sub_self], by rw [Nat.sub_self]; exact HO4.out, HW4.out⟩
      case round =>
        obtain ⟨q, v, cap, hq, hj, rfl, hgr, hbel⟩ := hrel
        have HG5 := Lib.hid hgr
        have HB5 := Lib.hid hbel
        have hs5 : w.heap.size ≤ wr.heap.size := hbel.size
        clear hgr hbel
        rcases hj with ⟨rfl, rfl⟩ | ⟨j, rfl, rfl⟩
        · have HL : Hid (ListPostC (digits T d) w (.returned (.slice v d cap)) wr) := by
            have := HG5.out
            rw [Nat.sub_zero, List.take_of_length_le (by rw [digits_length]; omega)] at this
            exact listPostC_grow this HB5.out
          go_wp2
          go_ret
          rw [HE.out, HK.out]
          exact HL.out
        · obtain ⟨D, hD⟩ : ∃ D : Int, D = if T.testBit j then 1 else 0 := ⟨_, rfl⟩
          have hdig : ((T : Int) / 2 ^ j).tmod 2 = D := by
            rw [Int.tmod_eq_emod_of_nonneg (by rw [← cast_pow2, ← Int.natCast_ediv]; exact Int.natCast_nonneg _), hD]; exact digit_mod
          have HT : Hid ((digits T d).take (d - j) = (digits T d).take (d - (j + 1)) ++ [D]) := by rw [hD]; exact digits_take hq
          have hsum : d - (j + 1) + 1 = d - j := by omega
          have HSum := Lib.hid hsum
          clear hD hsum
          go_wp2_with (at_builtin; refine wpList_append1 (.tmp 34) (.tmp 39) w.heap.size v (d - (j + 1)) cap _ ⟨wr.heap.size, 0, none⟩ D rfl rfl rfl rfl (HG5.out.alloc _) (by simp) (by omega) (by simp; omega) ?_; intro a6 cap6 w6 hg6 hb6; have HG6 := Lib.hid hg6; have HB6 := Lib.hid hb6; clear hg6 hb6)
          go_roundw
          case rel => exact ⟨j, a6, cap6, by omega, idx_pred j, by rw [HSum.out], by rw [HT.out, ← HSum.out]; exact HG6.out, (HB5.out.alloc hs5 _).trans HB6.out⟩
          case measure => simp [intOf]
end Go.Proofs.Ytnmpeeailljdaaa
