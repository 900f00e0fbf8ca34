/-
  Models of the checks, and bursts, walked. No condition.
-/
import Derived.Test.YtflplihhakepfaaDoorPass
import Derived.Test.YtflplihhakepfaaDoorLaw1
namespace Go.Proofs.YtflplihhakepfaaDoor
open Go.RowKit

/-- What the burst leads to. -/
def burstIn (g : Int) (xs : List Int) (i : Int) (bs : List Int) : Bool := passes g xs && bitsOk bs && decide (0 ≤ i) && decide (i ≤ (xs.length : Int) - (bs.length : Int))
def burstB (g : Int) (xs : List Int) (i : Int) (bs : List Int) : Bool := burstIn g xs i bs && !passes g (sumBits xs (damage xs.length i.toNat bs))
theorem damage_ok {n i : Nat} {bs : List Int} (hb : bitsOk bs = true) (h : i + bs.length ≤ n) (hn : n ≤ 1024) : bitsOk (damage n i bs) = true := by
  unfold damage
  have := bitsOk_length hb
  refine bitsOk_append (bitsOk_append (zeros_ok (by omega)) hb (by rw [zeros_length]; omega)) (zeros_ok (by omega)) ?_
  rw [List.length_append, zeros_length, zeros_length]; omega
theorem madeCells_zeros (n : Nat) : madeCells #[Value.int .i64 0] n = ((zeros n).map (Value.int .i64)).toArray := by
  apply Array.ext'
  apply List.ext_getElem
  · simp [madeCells, zeros]
  · intro j h1 h2
    simp [madeCells, zeros, Nat.mod_one]
theorem splice_damage {n i : Nat} {bs : List Int} (h : i + bs.length ≤ n) : splice ((zeros n).map (Value.int .i64)) i (bs.map (Value.int .i64)) = (damage n i bs).map (Value.int .i64) := by
  simp only [splice, damage, zeros, List.map_append, List.map_replicate, List.take_replicate, List.drop_replicate, List.length_map, List.append_assoc]
  rw [show min i n = i by omega, show n - (i + bs.length) = n - i - bs.length by omega]
theorem ints_of_cells {w : World} {b : Nat} {t : TypeId} {xs : List Int} (h : w.heap[b]? = some (.cells (xs.map (Value.int .i64)).toArray t (0, 0))) : Ints .i64 w w.heap.size (some ⟨b, 0, none⟩) xs := fun _ =>
  ⟨b, 0, rfl, (Array.getElem?_eq_some_iff.1 h).1, fun i hi => by
    rw [cell_of_row _ _ _ _ _ _ h]
    simp [el, hi]⟩
theorem infoInt1 : (Tryd.prog.info? 3).map (·.size) = some 1 := by kernel_rfl

theorem stp_top {g d t : Nat} (h : t < 2 ^ (d + 1)) : stp g d t = if 2 ^ d ≤ t then t ^^^ g else t := by
  by_cases ht : 2 ^ d ≤ t
  · have hb : t.testBit d = true := by
      rw [Nat.testBit_eq_decide_div_mod_eq]
      have h1 : t / 2 ^ d = 1 := by
        rw [Nat.pow_succ] at h
        exact Nat.div_eq_of_lt_le (by omega) (by omega)
      simp [h1]
    simp [stp, hb, ht]
  · rw [stp_small (by omega), if_neg ht]
theorem numF_succ (f : Nat → Bool) (k : Nat) : numF f (k + 1) = 2 * numF f k + (f k).toNat := rfl
def areBits (xs : List Int) : Prop := ∀ j, j < xs.length → el xs j = 0 ∨ el xs j = 1
theorem areBits_of {xs : List Int} (h : bitsOk xs = true) : areBits xs := fun _ hj => bit_cases h hj
theorem areBits_zeros {xs : List Int} (h : areBits xs) (n : Nat) : areBits (xs ++ zeros n) := fun j hj => by
  by_cases h1 : j < xs.length
  · rw [el_append_left h1]; exact h j h1
  · obtain ⟨i, rfl⟩ : ∃ i, j = xs.length + i := ⟨j - xs.length, by omega⟩
    rw [el_append_right, zeros_el]; exact .inl rfl
theorem areBits_el {xs : List Int} (h : areBits xs) {j : Nat} (hj : j < xs.length) : el xs j = if bitsF xs xs.length j then 1 else 0 := by
  rcases h j hj with e | e <;> simp [bitsF, hj, e]
/-- The remainder, as the model reckons it, one bit more. -/
theorem rem_step {g : Int} (hg : genOk g = true) {xs : List Int} (hb : areBits xs) {k : Nat} (hk : k < xs.length) :
    ∃ t : Nat, t < 131072 ∧ 2 * ((pm g.toNat (deg g) (numF (bitsF xs xs.length) k) : Nat) : Int) + el xs k = (t : Int) ∧
      (if 2 ^ deg g ≤ t then t ^^^ g.toNat else t) = pm g.toNat (deg g) (numF (bitsF xs xs.length) (k + 1)) := by
  have hp := pm_lt (deg_pow hg).1 (deg_pow hg).2 (numF (bitsF xs xs.length) k)
  have hpd := pow_deg hg
  have hbit := toNat_lt2 (bitsF xs xs.length k)
  refine ⟨2 * pm g.toNat (deg g) (numF (bitsF xs xs.length) k) + (bitsF xs xs.length k).toNat, by omega, ?_, ?_⟩
  · rw [areBits_el hb hk]
    cases bitsF xs xs.length k <;> simp
  · rw [numF_succ, pm_two _ _ _ _ hbit, stp_top (by rw [Nat.pow_succ]; omega)]
set_option maxHeartbeats 1000000 in
theorem l2Remainder_any (a : Option Addr) (c B : Nat) (xs : List Int) (g : Int) (w : World) (hx : Ints .i64 w B a xs) (hb : areBits xs) (hl : xs.length ≤ 1100) (hg : genOk g = true) :
    Calls Tryd.prog 60 #[.slice a xs.length c, .int .i64 g] w fun e w' => e = .returned (.int .i64 (pm g.toNat (deg g) (numOf xs) : Nat)) ∧ w = w' := by
  obtain ⟨g1, g2, g3⟩ := genOk_parts hg
  obtain ⟨G, rfl⟩ := Int.eq_ofNat_of_zero_le (show 0 ≤ g by omega)
  have HDg := Lib.hid (l2Degree_any (G : Int) w (by omega) g2)
  have hG : G < 131072 := by omega
  obtain ⟨P, hP⟩ : ∃ P, P = 2 ^ deg (G : Int) := ⟨_, rfl⟩
  have hPb : P ≤ 65536 := by rw [hP]; exact pow_deg hg
  have e1 : wrap64 ((2 : Int) ^ deg (G : Int)) = (P : Int) := by
    rw [← cast_pow2, ← hP]; exact wrap64_in (by omega)
  have hdl := (deg_lt hg).2
  have HE1 := Lib.hid e1
  have HP := Lib.hid hP
  have HG := Lib.hid hg
  have HB := Lib.hid hb
  have HX := Lib.hid hx
  clear g1 g2 g3 hg hb e1 hP hx
  go_enter Tryd.func60, Tryd.ntmps60
  go_wp2_with (go_at_call 47; refine HDg.out.mono ?_; rintro e w' ⟨rfl, rfl⟩)
  rw [HE1.out]
  go_loop [5, 7] (fun r i => ∃ k : Nat, k ≤ xs.length ∧ i = .int .i64 k ∧ r = .int .i64 (pm ((G : Int)).toNat (deg (G : Int)) (numF (bitsF xs xs.length) k) : Nat)) (fun _ i => xs.length - (intOf i).toNat)
  case atStart => exact ⟨0, Nat.zero_le _, rfl, by simp [numF, pm_zero]⟩
  case round =>
    obtain ⟨k, hk, rfl, rfl⟩ := hrel
    by_cases hlt : k < xs.length
    · obtain ⟨b, off, rfl, hbb, hc⟩ := HX.out.at_ hlt
      obtain ⟨t, ht1, ht2, ht3⟩ := rem_step HG.out HB.out hlt
      have hR := pm_lt (deg_pow HG.out).1 (deg_pow HG.out).2 (numF (bitsF xs xs.length) k)
      rw [← HP.out] at hR ht3
      have HN := Lib.hid ht3
      generalize pm ((G : Int)).toNat (deg (G : Int)) (numF (bitsF xs xs.length) k) = R at *
      have hRb : R < 65536 := by omega
      obtain ⟨x, hxx⟩ : ∃ x, x = el xs k := ⟨_, rfl⟩
      have hx01 : x = 0 ∨ x = 1 := by rw [hxx]; exact HB.out k hlt
      have hx0 : 0 ≤ x := by omega
      have hx1 : x ≤ 1 := by omega
      rw [← hxx] at ht2 hc
      clear hxx hx01 ht3 hR
      by_cases htop : P ≤ t
      · have hxor : bits .xor .i64 (t : Int) (G : Int) = ((t ^^^ G : Nat) : Int) := i64_xor t G (by omega) (by omega)
        obtain ⟨Z, hZ⟩ : ∃ Z, Z = t ^^^ G := ⟨_, rfl⟩
        rw [← hZ] at hxor
        have HZ : Hid (Z = pm ((G : Int)).toNat (deg (G : Int)) (numF (bitsF xs xs.length) (k + 1))) := by
          show _ = _
          have := HN.out
          rw [if_pos htop, Int.toNat_natCast, ← hZ] at this
          rw [this, Int.toNat_natCast]
        clear hZ HN
        go_wp2
        go_round
        case rel => exact ⟨k + 1, by omega, by go_num, by rw [← HZ.out]⟩
        case measure => simp [intOf]; omega
      · have HZ : Hid (t = pm ((G : Int)).toNat (deg (G : Int)) (numF (bitsF xs xs.length) (k + 1))) := by
          show _ = _
          have := HN.out
          rw [if_neg htop] at this
          exact this
        clear HN
        go_wp2
        go_round
        case rel => exact ⟨k + 1, by omega, by go_num, by rw [← HZ.out]⟩
        case measure => simp [intOf]; omega
    · obtain rfl : xs.length = k := by omega
      go_wp2
      go_ret
      exact ⟨rfl, rfl⟩

theorem tab_zeros (g : Int) (xs : List Int) : pm g.toNat (deg g) (numOf (xs ++ zeros (deg g))) = tab g.toNat (deg g) (numOf xs) := by
  rw [numOf_append, numOf_zeros, zeros_length]; rfl
theorem digits_take {T d q : Nat} (hq : q + 1 ≤ d) : (digits T d).take (d - q) = (digits T d).take (d - (q + 1)) ++ [if T.testBit q then 1 else 0] := by
  have h1 : d - q = d - (q + 1) + 1 := by omega
  rw [h1, take_el (by rw [digits_length]; omega)]
  congr 2
  unfold digits
  rw [bitList_el _ _ _ (by omega), show d - 1 - (d - (q + 1)) = q by omega]
theorem digit_mod {T k : Nat} : ((T : Int) / 2 ^ k) % 2 = if T.testBit k then 1 else 0 := by
  rw [← cast_pow2, ← Int.natCast_ediv, Nat.testBit_eq_decide_div_mod_eq]
  generalize T / 2 ^ k = q
  rcases Nat.mod_two_eq_zero_or_one q with h | h
  · simp [h]; omega
  · simp [h]; omega
set_option maxHeartbeats 1000000 in
theorem specCheckBits_any (a : Option Addr) (c : Nat) (xs : List Int) (g : Int) (w : World) (hx : Ints .i64 w w.heap.size a xs) (hl : xs.length ≤ maxLen) :
    Calls Tryd.prog 48 #[.slice a xs.length c, .int .i64 g] w (ListPostC (chkOr g xs) w) := by
  have HAl := Lib.hid (fun o : Obj => (Below.refl w.heap.size w).alloc (Nat.le_refl _) o)
  have HXa := Lib.hid (fun o : Obj => (hx.below (HAl.out o)))
  have hbv := fun o : Obj => specBitsValid_any a c w.heap.size xs (w.alloc o) (HXa.out o) hl
  have hgv := fun W : World => specGenValid_any g W
  have HX := Lib.hid hx
  clear hx
  cases hb : bitsOk xs
  · rw [hb] at hbv
    have HE := Lib.hid (chkOr_no (g := g) (xs := xs) (by simp [chkOk, hb]))
    have HV := Lib.hid hbv
    clear hbv hgv hb
    go_enter Tryd.func48, Tryd.ntmps48
    go_wp2_with (go_at_call 35; ((with_reducible refine (HV.out _).mono ?_); rintro e w' ⟨rfl, rfl⟩))
    go_ret
    rw [HE.out]
    exact listPostC_grow (Grow.lit0 _ _ _ _ (Nat.le_refl _)) (HAl.out _)
  · rw [hb] at hbv
    cases hg : genOk g
    · rw [hg] at hgv
      have HE := Lib.hid (chkOr_no (g := g) (xs := xs) (by simp [chkOk, hg]))
      have HV := Lib.hid hbv
      have HG := Lib.hid hgv
      clear hbv hgv hb hg
      go_enter Tryd.func48, Tryd.ntmps48
      go_wp2_with (first | (go_at_call 35; ((with_reducible refine (HV.out _).mono ?_); rintro e w' ⟨rfl, rfl⟩)) | (go_at_call 46; ((with_reducible refine (HG.out _).mono ?_); rintro e w' ⟨rfl, rfl⟩)))
      go_ret
      rw [HE.out]
      exact listPostC_grow (Grow.lit0 _ _ _ _ (Nat.le_refl _)) (HAl.out _)
    · rw [hg] at hgv
      obtain ⟨g1, g2, g3⟩ := genOk_parts hg
      have HE := Lib.hid (chkOr_yes (g := g) (xs := xs) (by simp [chkOk, hg, hb]))
      have HV := Lib.hid hbv
      have HG := Lib.hid hgv
      have HDg := Lib.hid (fun W : World => l2Degree_any g W (by omega) g2)
      have hxl := bitsOk_length hb
      have hd1 := (deg_lt hg).1
      have hd2 := (deg_lt hg).2
      have hT := tab_lt hg (numOf xs)
      have hpd := pow_deg hg
      have hrem := fun (W : World) (A : Option Addr) (cc B : Nat) (h : Ints .i64 W B A (xs ++ zeros (deg g))) => l2Remainder_any A cc B (xs ++ zeros (deg g)) g W h (areBits_zeros (areBits_of hb) _) (by rw [List.length_append, zeros_length]; omega) hg
      rw [tab_zeros, List.length_append, zeros_length] at hrem
      obtain ⟨T, hTT⟩ : ∃ T, T = tab g.toNat (deg g) (numOf xs) := ⟨_, rfl⟩
      obtain ⟨d, hdd⟩ : ∃ d, d = deg g := ⟨_, rfl⟩
      have HK : Hid (chk g xs = digits T d) := by show _ = _; rw [hTT, hdd]; rfl
      rw [← hTT] at hrem hT
      rw [← hdd] at hrem hd1 hd2 HDg hT hpd
      have HR := Lib.hid hrem
      have hTb : T < 65536 := by omega
      clear hbv hgv hb hg g1 g2 g3 hrem hTT hdd hT hpd
      have hsz : (w.alloc (.cells #[] 3)).heap.size = w.heap.size + 1 := by simp
      have HW2 : Hid (Below w.heap.size w ((w.alloc (.cells #[] 3)).alloc (.cells #[] 3))) := ((Below.refl _ _).alloc (Nat.le_refl _) _).alloc (by simp) _
      have HX2 := Lib.hid (HX.out.below HW2.out)
      have HG0 : Hid (Grow .i64 3 ((w.alloc (.cells #[] 3)).alloc (.cells #[] 3)) (w.heap.size + 1) (some ⟨w.heap.size + 1, 0, none⟩) 0 0 []) := by
        have := Grow.lit0 .i64 3 (w.alloc (.cells #[] 3)) (w.heap.size + 1) (by simp)
        rw [hsz] at this
        exact this
      have HO0 : Hid (Grow .i64 3 ((w.alloc (.cells #[] 3)).alloc (.cells #[] 3)) w.heap.size (some ⟨w.heap.size, 0, none⟩) 0 0 []) := (Grow.lit0 .i64 3 w w.heap.size (Nat.le_refl _)).alloc _
      clear hsz
      go_enter Tryd.func48, Tryd.ntmps48
      go_wp2_with (first
        | (go_at_call 35; ((with_reducible refine (HV.out _).mono ?_); rintro e w' ⟨rfl, rfl⟩))
        | (go_at_call 46; ((with_reducible refine (HG.out _).mono ?_); rintro e w' ⟨rfl, rfl⟩))
        | (go_at_call 47; ((with_reducible refine (HDg.out _).mono ?_); rintro e w' ⟨rfl, rfl⟩))
        | (at_builtin; refine wpList_appendA (.tmp 21) (.tmp 22) (w.heap.size + 1) (some ⟨w.heap.size + 1, 0, none⟩) a 0 0 xs.length c w.heap.size [] xs rfl rfl rfl rfl HG0.out HX2.out rfl (by omega) (by simp) ?_; intro a3 cap3 w3 hg3 hb3 hnn3; rw [Nat.zero_add, List.nil_append] at hg3; have HG3 := Lib.hid hg3; have HB3 := Lib.hid hb3; have hs3 : w.heap.size + 1 ≤ w3.heap.size := Nat.le_trans (by simp) hb3.size; clear hg3 hb3 hnn3)
        | (at_builtin; refine wpList_appendZ (.tmp 23) (.tmp 24) (w.heap.size + 1) a3 xs.length cap3 d xs rfl rfl rfl rfl HG3.out (by omega) (by omega) hs3 ?_; intro a4 cap4 w4 hg4 hb4 hnn4; have HG4 := Lib.hid hg4; have HB4 := Lib.hid (HB3.out.trans hb4); clear hg4 hb4 hnn4))
      refine (HR.out w4 a4 cap4 w4.heap.size HG4.out.ints).mono ?_
      rintro e w' ⟨rfl, rfl⟩
      have HO4 : Hid (Grow .i64 3 w4 w.heap.size (some ⟨w.heap.size, 0, none⟩) 0 0 []) := ⟨rfl, .inr ⟨w.heap.size, 0, #[], rfl, Nat.le_refl _, (HB4.out.block w.heap.size (by omega)).trans (heap_prev2 _ _ _), Nat.le_refl _, by simp, by simp, rfl⟩⟩
      have HW4 : Hid (Below w.heap.size w w4) := HW2.out.trans (HB4.out.mono (by omega))
      clear HG0 HO0 HX2 HG3 HB3 HG4 HB4 HR HV HG HDg hs3
      go_wp2
      go_loopw [5, 8] (fun s i wr => ∃ (q : Nat) (v : Option Addr) (cap : Nat), q ≤ d ∧ Idx q i ∧ s = .slice v (d - q) cap ∧ Grow .i64 3 wr w.heap.size v (d - q) cap ((digits T d).take (d - q)) ∧ Below w.heap.size w wr) (fun _ i _ => (intOf i + 1).toNat)
      case atStart => exact ⟨d, _, _, Nat.le_refl _, idx_pred _, by rw [Nat.sub_self], by rw [Nat.sub_self]; exact HO4.out, HW4.out⟩
      case round =>
        obtain ⟨q, v, cap, hq, hj, rfl, hgr, hbel⟩ := hrel
        have HG5 := Lib.hid hgr
        have HB5 := Lib.hid hbel
        have hs5 : w.heap.size ≤ wr.heap.size := hbel.size
        clear hgr hbel
        rcases hj with ⟨rfl, rfl⟩ | ⟨j, rfl, rfl⟩
        · have HL : Hid (ListPostC (digits T d) w (.returned (.slice v d cap)) wr) := by
            have := HG5.out
            rw [Nat.sub_zero, List.take_of_length_le (by rw [digits_length]; omega)] at this
            exact listPostC_grow this HB5.out
          go_wp2
          go_ret
          rw [HE.out, HK.out]
          exact HL.out
        · obtain ⟨D, hD⟩ : ∃ D : Int, D = if T.testBit j then 1 else 0 := ⟨_, rfl⟩
          have hdig : ((T : Int) / 2 ^ j).tmod 2 = D := by
            rw [Int.tmod_eq_emod_of_nonneg (by rw [← cast_pow2, ← Int.natCast_ediv]; exact Int.natCast_nonneg _), hD]; exact digit_mod
          have HT : Hid ((digits T d).take (d - j) = (digits T d).take (d - (j + 1)) ++ [D]) := by rw [hD]; exact digits_take hq
          have hsum : d - (j + 1) + 1 = d - j := by omega
          have HSum := Lib.hid hsum
          clear hD hsum
          go_wp2_with (at_builtin; refine wpList_append1 (.tmp 34) (.tmp 39) w.heap.size v (d - (j + 1)) cap _ ⟨wr.heap.size, 0, none⟩ D rfl rfl rfl rfl (HG5.out.alloc _) (by simp) (by omega) (by simp; omega) ?_; intro a6 cap6 w6 hg6 hb6; have HG6 := Lib.hid hg6; have HB6 := Lib.hid hb6; clear hg6 hb6)
          go_roundw
          case rel => exact ⟨j, a6, cap6, by omega, idx_pred j, by rw [HSum.out], by rw [HT.out, ← HSum.out]; exact HG6.out, (HB5.out.alloc hs5 _).trans HB6.out⟩
          case measure => simp [intOf]

set_option maxHeartbeats 1000000 in
theorem specCheckAppend_any (a : Option Addr) (c : Nat) (xs : List Int) (g : Int) (w : World) (hx : Ints .i64 w w.heap.size a xs) (hl : xs.length ≤ maxLen) :
    Calls Tryd.prog 30 #[.slice a xs.length c, .int .i64 g] w (ListPostC (appOr g xs) w) := by
  have hbv := specBitsValid_any a c w.heap.size xs w hx hl
  have hgv := fun W : World => specGenValid_any g W
  have HAl := Lib.hid (fun o : Obj => (Below.refl w.heap.size w).alloc (Nat.le_refl _) o)
  have HX := Lib.hid hx
  clear hx
  cases hb : bitsOk xs
  · rw [hb] at hbv
    have HE := Lib.hid (show appOr g xs = [] by simp [appOr, appOk, chkOk, hb])
    have HV := Lib.hid hbv
    clear hbv hgv hb
    go_enter Tryd.func30, Tryd.ntmps30
    go_wp2_with (go_at_call 35; ((with_reducible refine HV.out.mono ?_); rintro e w' ⟨rfl, rfl⟩))
    go_ret
    rw [HE.out]
    exact listPostC_grow (Grow.lit0 _ _ _ _ (Nat.le_refl _)) (HAl.out _)
  · rw [hb] at hbv
    cases hg : genOk g
    · rw [hg] at hgv
      have HE := Lib.hid (show appOr g xs = [] by simp [appOr, appOk, chkOk, hg])
      have HV := Lib.hid hbv
      have HG := Lib.hid hgv
      clear hbv hgv hb hg
      go_enter Tryd.func30, Tryd.ntmps30
      go_wp2_with (first | (go_at_call 35; ((with_reducible refine HV.out.mono ?_); rintro e w' ⟨rfl, rfl⟩)) | (go_at_call 46; ((with_reducible refine (HG.out _).mono ?_); rintro e w' ⟨rfl, rfl⟩)))
      go_ret
      rw [HE.out]
      exact listPostC_grow (Grow.lit0 _ _ _ _ (Nat.le_refl _)) (HAl.out _)
    · rw [hg] at hgv
      obtain ⟨g1, g2, g3⟩ := genOk_parts hg
      have HV := Lib.hid hbv
      have HG := Lib.hid hgv
      have HDg := Lib.hid (fun W : World => l2Degree_any g W (by omega) g2)
      have hxl := bitsOk_length hb
      have hd1 := (deg_lt hg).1
      have hd2 := (deg_lt hg).2
      have HCk := Lib.hid (chkOr_yes (g := g) (xs := xs) (by simp [chkOk, hg, hb]))
      have HOk := Lib.hid (show chkOk g xs = true by simp [chkOk, hg, hb])
      have HKl := Lib.hid (chk_length g xs)
      have HL := Lib.hid hl
      clear hbv hgv hb hg g1 g2 g3 hl
      by_cases hlen : xs.length + deg g ≤ 1024
      · have HE := Lib.hid (show appOr g xs = xs ++ chk g xs by simp [appOr, appOk, HOk.out, hlen])
        have hgt : ¬ (1024 < (xs.length : Int) + (deg g : Int)) := by omega
        have HXa := Lib.hid (HX.out.below (HAl.out (.cells #[] 3)))
        clear hlen
        go_enter Tryd.func30, Tryd.ntmps30
        go_wp2_with (first
          | (go_at_call 35; ((with_reducible refine HV.out.mono ?_); rintro e w' ⟨rfl, rfl⟩))
          | (go_at_call 46; ((with_reducible refine (HG.out _).mono ?_); rintro e w' ⟨rfl, rfl⟩))
          | (go_at_call 47; ((with_reducible refine (HDg.out _).mono ?_); rintro e w' ⟨rfl, rfl⟩))
          | (at_builtin; refine wpList_appendA (.tmp 22) (.tmp 23) w.heap.size (some ⟨w.heap.size, 0, none⟩) a 0 0 xs.length c w.heap.size [] xs rfl rfl rfl rfl (Grow.lit0 _ _ _ _ (Nat.le_refl _)) HXa.out rfl (by omega) (by simp) ?_; intro a3 cap3 w3 hg3 hb3 hnn3; rw [Nat.zero_add, List.nil_append] at hg3; have HG3 := Lib.hid hg3; have HB3 := Lib.hid ((HAl.out _).trans hb3); have hs3 : w.heap.size ≤ w3.heap.size := Nat.le_trans (by simp) hb3.size; clear hg3 hb3 hnn3))
        refine (specCheckBits_any a c xs g w3 ((HX.out.below HB3.out).more hs3) HL.out).mono ?_
        rw [HCk.out]
        rintro e w4 ⟨v4, c4, rfl, r4, o4, b4⟩
        have HI4 := Lib.hid (own_of_list o4).ints
        have HG4 := Lib.hid (HG3.out.below b4)
        have HB4 := Lib.hid (HB3.out.trans (b4.mono hs3))
        have hs4 : w.heap.size ≤ w4.heap.size := Nat.le_trans hs3 b4.size
        have hkl : (chk g xs).length ≤ 16 := by rw [HKl.out]; exact hd2
        clear o4 b4 r4 HG3
        generalize chk g xs = K at *
        go_wp2_with (at_builtin; refine wpList_appendA (.tmp 24) (.tmp 27) w.heap.size a3 v4 xs.length cap3 K.length c4 w4.heap.size xs K rfl rfl rfl rfl HG4.out HI4.out rfl (by omega) hs4 ?_; intro a5 cap5 w5 hg5 hb5 hnn5; have HG5 := Lib.hid hg5; have HB5 := Lib.hid (HB4.out.trans hb5); clear hg5 hb5 hnn5)
        go_ret
        rw [HE.out]
        exact listPostC_grow HG5.out HB5.out
      · have HE := Lib.hid (show appOr g xs = [] by simp [appOr, appOk, hlen])
        have hgt : 1024 < (xs.length : Int) + (deg g : Int) := by omega
        clear hlen
        go_enter Tryd.func30, Tryd.ntmps30
        go_wp2_with (first
          | (go_at_call 35; ((with_reducible refine HV.out.mono ?_); rintro e w' ⟨rfl, rfl⟩))
          | (go_at_call 46; ((with_reducible refine (HG.out _).mono ?_); rintro e w' ⟨rfl, rfl⟩))
          | (go_at_call 47; ((with_reducible refine (HDg.out _).mono ?_); rintro e w' ⟨rfl, rfl⟩)))
        go_ret
        rw [HE.out]
        exact listPostC_grow (Grow.lit0 _ _ _ _ (Nat.le_refl _)) (HAl.out _)
end Go.Proofs.YtflplihhakepfaaDoor
