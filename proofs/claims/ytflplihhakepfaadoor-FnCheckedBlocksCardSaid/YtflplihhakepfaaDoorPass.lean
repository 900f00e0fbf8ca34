/-
  What the program's CheckAppend and CheckPasses answer, for every list and number. Condition of the latter: the slice has room for its list, as every slice has.
-/
import Derived.Test.YtflplihhakepfaaDoorCheckMath
import Derived.Test.YtflplihhakepfaaDoorSliceFns
import Derived.Test.YtflplihhakepfaaDoorImpl1
namespace Go.Proofs.YtflplihhakepfaaDoor
open Go.RowKit

def appOk (g : Int) (xs : List Int) : Bool := chkOk g xs && decide (xs.length + deg g ≤ 1024)
def appOr (g : Int) (xs : List Int) : List Int := if appOk g xs then xs ++ chk g xs else []
theorem chkOr_no {g : Int} {xs : List Int} (h : chkOk g xs = false) : chkOr g xs = [] := by simp [chkOr, h]
theorem chkOr_yes {g : Int} {xs : List Int} (h : chkOk g xs = true) : chkOr g xs = chk g xs := by simp [chkOr, h]
set_option maxHeartbeats 1000000 in
theorem checkAppend_any (a : Option Addr) (c : Nat) (xs : List Int) (g : Int) (w : World) (hx : Ints .i64 w w.heap.size a xs) (hl : xs.length ≤ maxLen) :
    Calls Tryd.prog 29 #[.slice a xs.length c, .int .i64 g] w (ListPostC (appOr g xs) w) := by
  unfold maxLen at hl
  have hcb := checkBits_any a c w.heap.size xs g w hx (Nat.le_refl _)
  have HX := Lib.hid hx
  clear hx
  cases hok : chkOk g xs
  · rw [chkOr_no hok] at hcb
    have HE := Lib.hid (show appOr g xs = [] by simp [appOr, appOk, hok])
    have HC := Lib.hid hcb
    clear hcb hok
    go_enter Tryd.func29, Tryd.ntmps29
    go_wp2_with fail
    refine HC.out.mono ?_
    rintro e w1 ⟨v, cv, rfl, o1, b1⟩
    have HB := Lib.hid b1
    clear o1 b1
    go_wp2
    go_ret
    rw [HE.out]
    exact listPostC_nil HB.out
  · rw [chkOr_yes hok] at hcb
    obtain ⟨hb, hg⟩ := chkOk_parts hok
    have hd := deg_lt hg
    have hd1 := hd.1
    have hd2 := hd.2
    have hxl := bitsOk_length hb
    obtain ⟨K, hK⟩ : ∃ K, K = chk g xs := ⟨_, rfl⟩
    have hKl : K.length = deg g := by rw [hK]; exact chk_length g xs
    rw [← hK] at hcb
    have HC := Lib.hid hcb
    have HKl := Lib.hid hKl
    have hk1 : 1 ≤ K.length := by omega
    have hk2 : K.length ≤ 16 := by omega
    have hk0 : ((K.length : Int) == 0) = false := by rw [beq_eq_false_iff_ne]; omega
    by_cases hlen : xs.length + deg g ≤ 1024
    · have HE : Hid (appOr g xs = xs ++ K) := by
        show _ = _
        simp [appOr, appOk, hok, hlen, hK]
      have hlen2 : ¬ (1024 < (xs.length : Int) + (K.length : Int)) := by omega
      clear hcb hok hd hlen hb hg hK hKl
      go_enter Tryd.func29, Tryd.ntmps29
      go_wp2_with fail
      refine HC.out.mono ?_
      rintro e w1 ⟨v, cv, rfl, o1, b1⟩
      have HO := Lib.hid (own_of_list o1).ints
      have HB := Lib.hid b1
      have HX1 := Lib.hid (HX.out.next b1)
      have hs1 : w.heap.size ≤ w1.heap.size := b1.size
      clear o1 b1
      go_wp2_with fail
      refine (slicesConcat_any w1.heap.size a v c cv xs K _ (by simp) (by simp) (by simp) ((HX1.out.below ((Below.refl _ _).alloc (Nat.le_refl _) _)).more (by simp)) ((HO.out.below ((Below.refl _ _).alloc (Nat.le_refl _) _)).more (by simp)) (by omega) (by omega)).mono ?_
      rintro e w2 ⟨v2, cv2, rfl, r2, o2, b2⟩
      have HL : Hid (ListPostC (xs ++ K) w (.returned (.slice v2 (xs ++ K).length cv2)) w2) := by
        refine ⟨v2, cv2, rfl, r2, fun hne => ?_, HB.out.trans ((after1 b2).2.2.mono hs1)⟩
        obtain ⟨b, cap, e, h1, h2, h3⟩ := o2 hne
        exact ⟨b, cap, e, by simp at h1; omega, h2, h3⟩
      clear r2 o2 b2
      go_wp2
      go_ret
      rw [HE.out]
      have := HL.out
      rw [List.length_append] at this
      exact this
    · have HE : Hid (appOr g xs = []) := by
        show _ = _
        simp [appOr, appOk, hok]; omega
      have hlen2 : 1024 < (xs.length : Int) + (K.length : Int) := by omega
      clear hcb hok hd hlen hb hg hK hKl
      go_enter Tryd.func29, Tryd.ntmps29
      go_wp2_with fail
      refine HC.out.mono ?_
      rintro e w1 ⟨v, cv, rfl, o1, b1⟩
      have HB := Lib.hid b1
      clear o1 b1
      go_wp2
      go_ret
      rw [HE.out]
      exact listPostC_nil HB.out
theorem checkAppend_list (a : Option Addr) (c : Nat) (xs : List Int) (g : Int) (w : World) (hx : Ints .i64 w w.heap.size a xs) (hl : xs.length ≤ maxLen) :
    Calls Tryd.prog 29 #[.slice a xs.length c, .int .i64 g] w (ListPost (appOr g xs) w) := (checkAppend_any a c xs g w hx hl).mono fun _ _ h => h.post
theorem passes_no {g : Int} {xs : List Int} (h : chkOk g xs = false) : passes g xs = false := by simp [passes, h]
theorem passes_short {g : Int} {xs : List Int} (h : ¬ deg g ≤ xs.length) : passes g xs = false := by simp [passes, h]
theorem Ints.dropN {k : IntKind} {w : World} {B b off m : Nat} {xs : List Int} (hx : Ints k w B (some ⟨b, off, none⟩) xs) : Ints k w B (some ⟨b, off + m, none⟩) (xs.drop m) := fun hne => by
  have hne' : xs ≠ [] := by intro e; subst e; simp at hne
  obtain ⟨b', off', e, hb, hc⟩ := hx hne'
  injection e with e
  injection e with e1 e2
  subst e1 e2
  refine ⟨b, off + m, rfl, hb, fun i hi => ?_⟩
  have hi2 : m + i < xs.length := by simp at hi; omega
  rw [Nat.add_assoc, hc (m + i) hi2]
  simp [el, List.getElem?_drop]
set_option maxHeartbeats 1000000 in
theorem checkPasses_any (a : Option Addr) (c : Nat) (xs : List Int) (g : Int) (w : World) (hx : Ints .i64 w w.heap.size a xs) (hc : xs.length ≤ c) (hcm : c ≤ maxLen) :
    Calls Tryd.prog 31 #[.slice a xs.length c, .int .i64 g] w fun e w' => e = .returned (.bool (passes g xs)) ∧ Below w.heap.size w w' := by
  unfold maxLen at hcm
  have hbv := bitsValid_any a c w.heap.size xs w hx (Nat.le_refl _)
  have hgv := fun W => genValid_any g W
  cases hb : bitsOk xs
  · rw [hb] at hbv
    have HE := Lib.hid (show passes g xs = false from passes_no (by simp [chkOk, hb]))
    have HC := Lib.hid hbv
    clear hbv hgv hb hx
    go_enter Tryd.func31, Tryd.ntmps31
    go_wp2_with fail
    refine HC.out.mono ?_
    rintro e w1 ⟨rfl, b1⟩
    have HB := Lib.hid b1
    clear b1
    go_wp2
    go_ret
    exact ⟨ret_bool HE.out.symm, HB.out⟩
  · rw [hb] at hbv
    cases hg : genOk g
    · rw [hg] at hgv
      have HE := Lib.hid (show passes g xs = false from passes_no (by simp [chkOk, hg]))
      have HC := Lib.hid hbv
      have HG := Lib.hid hgv
      clear hbv hgv hb hx hg
      go_enter Tryd.func31, Tryd.ntmps31
      go_wp2_with fail
      refine HC.out.mono ?_
      rintro e w1 ⟨rfl, b1⟩
      have HB := Lib.hid b1
      clear b1
      go_wp2_with (go_at_call 49; refine (HG.out _).mono ?_; rintro e w' ⟨rfl, rfl⟩)
      go_ret
      exact ⟨ret_bool HE.out.symm, HB.out⟩
    · rw [hg] at hgv
      have hdeg := fun W => degreeOf_any g W
      rw [show degOr g = (deg g : Int) by simp [degOr, hg]] at hdeg
      have HD := Lib.hid hdeg
      have hxl := bitsOk_length hb
      have hd1 := (deg_lt hg).1
      have hd2 := (deg_lt hg).2
      have HC := Lib.hid hbv
      have HG := Lib.hid hgv
      by_cases hlen : deg g ≤ xs.length
      · have HE := Lib.hid (passes_iff hb hg hlen)
        have hle : ¬ ((xs.length : Int) < (deg g : Int)) := by omega
        have hok : chkOk g (xs.take (xs.length - deg g)) = true := by simp [chkOk, bitsOk_take' hb, hg]
        have HOk := Lib.hid hok
        obtain ⟨n, hn⟩ : ∃ n, n = xs.length - deg g := ⟨_, rfl⟩
        obtain ⟨d, hdd⟩ : ∃ d, d = deg g := ⟨_, rfl⟩
        rw [← hn] at HE HOk
        obtain ⟨b, off, rfl, hbb, hcc⟩ := hx.at_ (i := 0) (by omega)
        have HX := Lib.hid hx
        clear hbv hgv hdeg hb hx hg hcc hok hbb
        rw [← hdd] at HD hd1 hd2 hle hlen hn
        have HN := Lib.hid hn
        have Hd := Lib.hid hdd
        have hsub : (xs.length : Int) - (d : Int) = (n : Int) := by omega
        have hnc : n < c := by omega
        have hnc2 : n ≤ c := by omega
        have hnl : n ≤ xs.length := by omega
        clear hn hdd
        go_enter Tryd.func31, Tryd.ntmps31
        go_wp2_with fail
        refine HC.out.mono ?_
        rintro e w1 ⟨rfl, b1⟩
        have HB := Lib.hid b1
        have HX1 := Lib.hid (HX.out.next b1)
        clear b1
        go_wp2_with (first | (go_at_call 49; refine (HG.out _).mono ?_; rintro e w' ⟨rfl, rfl⟩) | (go_at_call 50; refine (HD.out _).mono ?_; rintro e w' ⟨rfl, rfl⟩))
        refine wp_region_any (by kernel_rfl) ?_
        change wpAny _ _ _ _ _ _ _ (World.drew _)
        refine wpAny_take (i := 0) (v := ?v0) rfl (by kernel_rfl) (by kernel_rfl) (by kernel_rfl) (fun _ _ _ h => h) (Or.inl ⟨by kernel_rfl, ?h0⟩) ?_
        case h0 => intro w; go_simp; try with_reducible rfl
        go_simp
        refine wpAny_take (i := 1) (v := ?v1) rfl (by kernel_rfl) (by kernel_rfl) (by kernel_rfl) (fun _ _ _ h => h) (Or.inl ⟨by kernel_rfl, ?h1⟩) ?_
        case h1 => intro w; go_simp; try with_reducible rfl
        go_simp
        refine wpAny_take (i := 2) (v := ?v2) rfl (by kernel_rfl) (by kernel_rfl) (by kernel_rfl) (fun _ _ _ h => h) (Or.inl ⟨by kernel_rfl, ?h2⟩) ?_
        case h2 => intro w; go_simp; try with_reducible rfl
        go_simp
        refine wpAny_take (i := 3) (v := ?v3) rfl (by kernel_rfl) (by kernel_rfl) (by kernel_rfl) (fun _ _ _ h => h) (Or.inl ⟨by kernel_rfl, ?h3⟩) ?_
        case h3 => intro w; go_simp; try with_reducible rfl
        go_simp
        refine wpAny_take (i := 5) (v := ?v5) rfl (by kernel_rfl) (by kernel_rfl) (by kernel_rfl) (fun _ _ _ h => h) (Or.inl ⟨by kernel_rfl, ?h5⟩) ?_
        case h5 => intro w; go_simp; try with_reducible rfl
        go_simp
        refine wpAny_take (i := 6) (v := ?v6) rfl (by kernel_rfl) (by kernel_rfl) (by kernel_rfl) (fun _ _ _ h => h) (Or.inl ⟨by kernel_rfl, ?h6⟩) ?_
        case h6 => intro w; go_simp; try with_reducible rfl
        go_simp
        refine wpAny_take (i := 7) (v := ?v7) rfl (by kernel_rfl) (by kernel_rfl) (by kernel_rfl) (fun _ _ _ h => h) (Or.inl ⟨by kernel_rfl, ?h7⟩) ?_
        case h7 => intro w; go_simp; try with_reducible rfl
        go_simp
        rw [if_neg (show ¬ c = n by omega)]
        have hcb := checkBits_any (some ⟨b, off, none⟩) c w1.heap.size (xs.take n) g w1.drew HX1.out.take (Nat.le_refl _)
        rw [chkOr_yes HOk.out, show (xs.take n).length = n by simp; omega] at hcb
        obtain ⟨KK, hKK⟩ : ∃ KK, KK = chk g (xs.take n) := ⟨_, rfl⟩
        have hKl : KK.length ≤ 1048576 := by rw [hKK, chk_length, ← Hd.out]; omega
        rw [← hKK] at hcb
        have HEK : Hid (passes g xs = decide (KK = xs.drop n)) := by show _ = _; rw [HE.out, hKK]
        have HCB := Lib.hid hcb
        clear hcb hKK HE
        refine wpAny_ready (rs := [4]) (by kernel_rfl) (by simp) (AllReady.cons rfl (fun K hK => ?_) AllReady.nil)
        go_simp
        refine HCB.out.mono ?_
        rintro e w2 ⟨v, cv, rfl, o2, b2⟩
        have HO := Lib.hid (own_of_list o2).ints
        have HX2 := Lib.hid (Ints.next (w := w1.drew) HX1.out b2)
        have HB2 := Lib.hid (Below.next HB.out.drew (Nat.le_refl _) b2)
        clear o2 b2
        go_simp
        refine hK _ _ ?_
        clear hK K
        have heq := slicesEqual_any v (some ⟨b, off + n, none⟩) cv (c - n) w2.heap.size w2.heap.size KK (xs.drop n) w2 HO.out HX2.out.dropN hKl
        rw [List.length_drop] at heq
        have HEq := Lib.hid heq
        clear heq
        refine wpAny_ready (rs := [8]) (by kernel_rfl) (by simp) (AllReady.cons rfl (fun K hK => ?_) AllReady.nil)
        go_simp
        refine HEq.out.mono ?_
        rintro e w3 ⟨rfl, m3, rfl⟩
        go_simp
        refine hK _ _ ?_
        clear hK K
        refine wpAny_ready (rs := [9]) (by kernel_rfl) (by simp) (AllReady.cons rfl (fun K hK => ?_) AllReady.nil)
        go_simp
        refine hK _ _ ?_
        clear hK K
        refine wpAny_done (by kernel_rfl) ?_ _
        go_wp2
        go_ret
        exact ⟨ret_bool HEK.out.symm, below_drewN HB2.out m3⟩
      · have HE := Lib.hid (passes_short hlen)
        have hle : (xs.length : Int) < (deg g : Int) := by omega
        clear hbv hgv hdeg hb hx hg
        go_enter Tryd.func31, Tryd.ntmps31
        go_wp2_with fail
        refine HC.out.mono ?_
        rintro e w1 ⟨rfl, b1⟩
        have HB := Lib.hid b1
        clear b1
        go_wp2_with (first | (go_at_call 49; refine (HG.out _).mono ?_; rintro e w' ⟨rfl, rfl⟩) | (go_at_call 50; refine (HD.out _).mono ?_; rintro e w' ⟨rfl, rfl⟩))
        go_ret
        exact ⟨ret_bool HE.out.symm, HB.out⟩
end Go.Proofs.YtflplihhakepfaaDoor
