/-
  The laws of SequenceValid, CorrelateAt and FindPattern, walked: they return true for every code, and write into nothing that was there. No condition.
-/
import Derived.Test.YtdnnpnaaohfgaaaSeqLaw2
namespace Go.Proofs.Ytdnnpnaaohfgaaa
open Go.RowKit

/-- The first k numbers, negated. -/
def negL (xs : List Int) (k : Nat) : List Int := (List.range k).map fun i => -(el xs i)
theorem negL_length (xs : List Int) (k : Nat) : (negL xs k).length = k := by simp [negL]
theorem negL_snoc (xs : List Int) (k : Nat) : negL xs (k + 1) = negL xs k ++ [-(el xs k)] := by simp [negL, List.range_succ]
theorem seqIn_neg (x : Int) : seqIn (-x) = seqIn x := by
  unfold seqIn
  rw [Bool.eq_iff_iff]
  simp only [Bool.and_eq_true, decide_eq_true_eq]
  omega
theorem negL_ok (xs : List Int) : seqOk (negL xs xs.length) = seqOk xs := by
  unfold seqOk
  rw [negL_length]
  congr 1
  rw [Bool.eq_iff_iff, List.all_eq_true, List.all_eq_true]
  constructor
  · intro h x hx
    obtain ⟨i, hi, rfl⟩ := List.getElem_of_mem hx
    have := h (-(el xs i)) (List.mem_map.2 ⟨i, List.mem_range.2 hi, rfl⟩)
    rw [seqIn_neg, el_lt hi] at this
    exact this
  · intro h x hx
    obtain ⟨i, hi, rfl⟩ := List.mem_map.1 hx
    rw [seqIn_neg]
    exact h _ (el_mem (List.mem_range.1 hi))
theorem seqOk_1001 : seqOk [1001] = false := by decide

set_option maxHeartbeats 4000000 in
theorem walkSequenceValid (a : Option Addr) (c : Nat) (ds : List Int) (w : World) (hx : Ints .u8 w w.heap.size a ds) (hw : ∀ n ∈ ds, (Lit.int .u8 n).wf = true) (hc : ds.length ≤ c) (hcm : c ≤ maxLen) :
    Calls Try.prog 3 #[.slice a ds.length c] w fun e w' => e = .returned (.bool true) ∧ Below w.heap.size w w' := by
  have hb := isByte_of_wf hw
  clear hw
  by_cases hl : ds.length ≤ 1048576
  · go_enter Try.func3, Try.ntmps3
    go_wp2_with fail
    refine (drawSequenceValid_any a c ds w hx hb hc hcm).mono ?_
    rintro e w1 ⟨xs, b0, c0, rfl, ⟨lx, ⟨lc, _⟩, sx, i1⟩, bl⟩
    have X1 := Lib.hid i1
    have B1 := Lib.hid bl
    have SM := Lib.hid (fun i => sml_at sx i)
    clear hx hb hc hcm i1 bl sx
    obtain ⟨R, hR⟩ : ∃ R, R = seqOk xs := ⟨_, rfl⟩
    have HR := Lib.hid hR
    have z5 : (R != R) = false := by simp
    have z6 : (R == R) = true := by simp
    clear hR
    go_wp2_with fail
    refine (sequenceValid_any _ c0 w1.heap.size xs w1 X1.out).mono ?_
    rw [← HR.out]
    rintro e w2 ⟨rfl, rfl⟩
    go_wp2_with fail
    refine (specSequenceValid_any _ c0 w1.heap.size xs w1 X1.out (by unfold maxLen; omega)).mono ?_
    rw [← HR.out]
    rintro e w2 ⟨rfl, rfl⟩
    go_wp2
    go_loopw [5, 6] (fun s i wr => ∃ (k : Nat) (v : Option Addr) (cap : Nat), k ≤ xs.length ∧ i = .int .i64 k ∧ s = .slice v k cap ∧ Grow .i64 3 wr w1.heap.size v k cap (negL xs k) ∧ Below w1.heap.size w1 wr) (fun _ i _ => xs.length - (intOf i).toNat)
    case atStart => exact ⟨0, _, _, Nat.zero_le _, rfl, rfl, Grow.lit0 _ _ _ _ (Nat.le_refl _), alloc_below w1 _⟩
    case round =>
      obtain ⟨k, v, cap, hk, rfl, rfl, hgr, hbel⟩ := hrel
      have HG := Lib.hid hgr
      have HB := Lib.hid hbel
      have hsz : w1.heap.size ≤ wr.heap.size := hbel.size
      clear hgr
      by_cases hlt : k < xs.length
      · obtain ⟨bb, off, e1, _, hcc⟩ := (X1.out.below hbel).at_ hlt
        injection e1 with e1
        injection e1 with e1 e2
        subst e1 e2
        rw [Nat.zero_add] at hcc
        obtain ⟨x, hxx⟩ : ∃ x, x = el xs k := ⟨_, rfl⟩
        obtain ⟨y, hy⟩ : ∃ y, y = -x := ⟨_, rfl⟩
        have hs := SM.out k
        rw [← hxx] at hs hcc
        have HT := Lib.hid (show negL xs (k + 1) = negL xs k ++ [y] by rw [negL_snoc, hy, hxx])
        have hyb : -1000000000000 ≤ y ∧ y ≤ 1000000000000 := by omega
        have r1 : IntKind.i64.wrap (-x) = y := by rw [← hy]; exact wrapS hyb
        have r1' : wrap64 (-x) = y := by rw [← hy]; exact wrapS' hyb
        clear hbel hxx hy hs hyb
        go_wp2_with (at_builtin; refine wpList_append1 (.tmp 25) (.tmp 31) w1.heap.size v k cap (negL xs k) ⟨wr.heap.size, 0, none⟩ y rfl rfl rfl rfl (HG.out.alloc _) (by simp) (by omega) (by simp; omega) ?_; intro a3 cap3 w3 hg3 hb3; have HG3 := Lib.hid hg3; have HB3 := Lib.hid hb3; clear hg3 hb3)
        go_roundw
        case rel => exact ⟨k + 1, a3, cap3, by omega, by go_num, rfl, by rw [HT.out]; exact HG3.out, (HB.out.alloc hsz _).trans HB3.out⟩
        case measure => simp [intOf]; omega
      · obtain rfl : xs.length = k := by omega
        have h2 := sequenceValid_any v cap wr.heap.size (negL xs xs.length) wr HG.out.ints
        rw [negL_length, negL_ok, ← HR.out] at h2
        have H2 := Lib.hid h2
        have XW := Lib.hid (X1.out.next HB.out)
        have BW := Lib.hid (Below.next B1.out (Nat.le_refl _) HB.out)
        clear h2 hbel HG
        have h4 := sequenceValid_any (some ⟨wr.heap.size, 0, none⟩) 1 (wr.heap.size + 1) [1001] (wr.alloc (.cells #[.int .i64 1001] 3)) (by simpa using ints_one (heap_alloc_last wr (.cells #[.int .i64 1001] 3)) (by simp))
        rw [seqOk_1001] at h4
        have H4 := Lib.hid h4
        have HAL := Lib.hid (alive_from (BW.out.alloc BW.out.size (.cells #[.int .i64 1001] 3)))
        clear h4
        cases R
        · go_wp2_with fail
          refine H2.out.mono ?_
          rintro e w5 ⟨rfl, rfl⟩
          go_wp2_with fail
          refine H4.out.mono ?_
          rintro e w5 ⟨rfl, rfl⟩
          go_wp2_with fail
          refine HAL.out.mono ?_
          rintro e w8 ⟨rfl, b8⟩
          have B8 := Lib.hid b8
          clear b8
          go_wp2
          go_ret
          exact ⟨rfl, B8.out⟩
        · have h3 := sequenceValid_any (some ⟨b0, 0, none⟩) c0 wr.heap.size (xs.take (xs.length / 2)) wr XW.out.take
          have hlt2 : (xs.take (xs.length / 2)).length = xs.length / 2 := by simp; omega
          rw [seqOk_take HR.out.symm, hlt2] at h3
          have H3 := Lib.hid h3
          have hhalf : xs.length / 2 ≤ c0 := by omega
          clear h3 hlt2
          go_wp2_with fail
          refine H2.out.mono ?_
          rintro e w5 ⟨rfl, rfl⟩
          go_wp2_with fail
          refine H3.out.mono ?_
          rintro e w5 ⟨rfl, rfl⟩
          go_wp2_with fail
          refine H4.out.mono ?_
          rintro e w5 ⟨rfl, rfl⟩
          go_wp2_with fail
          refine HAL.out.mono ?_
          rintro e w8 ⟨rfl, b8⟩
          have B8 := Lib.hid b8
          clear b8
          go_wp2
          go_ret
          exact ⟨rfl, B8.out⟩
  · go_enter Try.func3, Try.ntmps3
    go_wp2
    go_ret
    exact ⟨rfl, Below.refl _ _⟩
theorem seqV_is (a : Option Addr) (c B : Nat) (xs : List Int) (w : World) (b : Bool) (hx : Ints .i64 w B a xs) (h : seqOk xs = b) :
    Calls Try.prog 13 #[.slice a xs.length c] w fun e w' => e = .returned (.bool b) ∧ w = w' := by
  subst h; exact sequenceValid_any a c B xs w hx
/-- No place is better, and none before it as good. -/
theorem fp_facts {xs ps : List Int} (h1 : seqOk xs = true) (h2 : seqOk ps = true) (h3 : 0 < ps.length) (h4 : ps.length ≤ xs.length) : ∃ g : Nat, fpOr xs ps = (g : Int) ∧ g + ps.length ≤ xs.length ∧
    (∀ k, k + ps.length ≤ xs.length → cS xs ps k ≤ cS xs ps g) ∧ ∀ k, k < g → cS xs ps k < cS xs ps g := by
  have hb := fpN_best (cS xs ps) (xs.length - ps.length)
  have hle := fpN_le (cS xs ps) (xs.length - ps.length)
  exact ⟨fpN (cS xs ps) (xs.length - ps.length), fpOr_yes h1 h2 h3 h4, by omega, fun k hk => hb.1 k (by omega), hb.2⟩
theorem corr_at {a a' : Option Addr} {c c' : Nat} {xs ps : List Int} {k : Nat} {w : World} (hx : Ints .i64 w w.heap.size a xs) (hy : Ints .i64 w w.heap.size a' ps) (hxo : seqOk xs = true) (hpo : seqOk ps = true) (hk : k + ps.length ≤ xs.length) :
    Calls Try.prog 21 #[.slice a xs.length c, .slice a' ps.length c', .int .i64 (k : Int)] w fun e w' => e = .returned (.int .i64 (cS xs ps k)) ∧ ∃ n, w' = w.drewN n := by
  have h := correlateAt_any a a' c c' xs ps (k : Int) w hx hy
  rw [crOr_yes hxo hpo hk] at h
  exact h
set_option maxHeartbeats 4000000 in
theorem walkFindPattern (a : Option Addr) (c : Nat) (ds : List Int) (w : World) (hx : Ints .u8 w w.heap.size a ds) (hw : ∀ n ∈ ds, (Lit.int .u8 n).wf = true) (hc : ds.length ≤ c) (hcm : c ≤ maxLen) :
    Calls Try.prog 6 #[.slice a ds.length c] w fun e w' => e = .returned (.bool true) ∧ Below w.heap.size w w' := by
  have hb := isByte_of_wf hw
  clear hw
  by_cases hl : ds.length ≤ 1048576
  · go_enter Try.func6, Try.ntmps6
    go_wp2_with fail
    refine (drawFindPattern_any a c ds w hx hb hc hcm).mono ?_
    rintro e w1 ⟨xs, b0, c0, ps, b1, c1, rfl, ⟨lx, _, _, i1⟩, ⟨lp, _, _, j1⟩, bl⟩
    have X1 := Lib.hid i1
    have P1 := Lib.hid j1
    have B1 := Lib.hid bl
    clear hx hb hc hcm i1 j1 bl
    obtain ⟨F, hF⟩ : ∃ F, F = fpOr xs ps := ⟨_, rfl⟩
    have HF := Lib.hid hF
    have z5 : (F != F) = false := by simp
    clear hF
    go_wp2_with fail
    refine (findPattern_any _ _ c0 c1 xs ps w1 X1.out P1.out).mono ?_
    rw [← HF.out]
    rintro e w2 ⟨rfl, n2, rfl⟩
    have X2 : Hid (Ints .i64 (w1.drewN n2) (w1.drewN n2).heap.size (some ⟨b0, 0, none⟩) xs) := X1.out
    have P2 : Hid (Ints .i64 (w1.drewN n2) (w1.drewN n2).heap.size (some ⟨b1, 0, none⟩) ps) := P1.out
    have B2 := Lib.hid (below_drewN B1.out n2)
    clear X1 P1 B1
    generalize w1.drewN n2 = w2 at *
    go_wp2_with fail
    refine (specFindPattern_any _ _ c0 c1 xs ps w2 X2.out P2.out (by unfold maxLen; omega) (by unfold maxLen; omega)).mono ?_
    rw [← HF.out]
    rintro e w3 ⟨rfl, n3, rfl⟩
    have X3 : Hid (Ints .i64 (w2.drewN n3) (w2.drewN n3).heap.size (some ⟨b0, 0, none⟩) xs) := X2.out
    have P3 : Hid (Ints .i64 (w2.drewN n3) (w2.drewN n3).heap.size (some ⟨b1, 0, none⟩) ps) := P2.out
    have B3 := Lib.hid (below_drewN B2.out n3)
    clear X2 P2 B2
    generalize w2.drewN n3 = w3 at *
    have HAL := Lib.hid (alive_from B3.out)
    have hV := fun b h => seqV_is (some ⟨b0, 0, none⟩) c0 w3.heap.size xs w3 b X3.out h
    have hW := fun b h => seqV_is (some ⟨b1, 0, none⟩) c1 w3.heap.size ps w3 b P3.out h
    cases h1 : seqOk xs
    · have H1 := Lib.hid (hV false h1)
      obtain rfl : F = -1 := by rw [HF.out]; exact fpOr_no (by simp [h1])
      clear hV hW h1
      go_wp2_with fail
      refine H1.out.mono ?_
      rintro e w5 ⟨rfl, rfl⟩
      go_wp2_with fail
      refine HAL.out.mono ?_
      rintro e w8 ⟨rfl, b8⟩
      have B8 := Lib.hid b8
      clear b8
      go_wp2
      go_ret
      exact ⟨rfl, B8.out⟩
    · have H1 := Lib.hid (hV true h1)
      cases h2 : seqOk ps
      · have H2 := Lib.hid (hW false h2)
        obtain rfl : F = -1 := by rw [HF.out]; exact fpOr_no (by simp [h2])
        clear hV hW h1 h2
        go_wp2_with fail
        refine H1.out.mono ?_
        rintro e w5 ⟨rfl, rfl⟩
        go_wp2_with fail
        refine H2.out.mono ?_
        rintro e w5 ⟨rfl, rfl⟩
        go_wp2_with fail
        refine HAL.out.mono ?_
        rintro e w8 ⟨rfl, b8⟩
        have B8 := Lib.hid b8
        clear b8
        go_wp2
        go_ret
        exact ⟨rfl, B8.out⟩
      · have H2 := Lib.hid (hW true h2)
        by_cases h3 : 0 < ps.length ∧ ps.length ≤ xs.length
        · obtain ⟨h3, h4⟩ := h3
          obtain ⟨g, hg, hgl, hbest, hfirst⟩ := fp_facts h1 h2 h3 h4
          rw [← HF.out] at hg
          subst hg
          have z6 : ((ps.length : Int) == 0) = false := by rw [beq_eq_false_iff_ne]; omega
          have z7 : decide ((xs.length : Int) < (ps.length : Int)) = false := by simp; omega
          have HC := Lib.hid (fun (k n : Nat) (hk : k + ps.length ≤ xs.length) => corr_at (c := c0) (c' := c1) (w := w3.drewN n) (X3.out.drewN n) (P3.out.drewN n) h1 h2 hk)
          have HC0 := Lib.hid (corr_at (c := c0) (c' := c1) (w := w3) X3.out P3.out h1 h2 hgl)
          obtain ⟨m, hm⟩ : ∃ m, m = cS xs ps g := ⟨_, rfl⟩
          rw [← hm] at hbest hfirst HC0
          have HBest := Lib.hid hbest
          have HFirst := Lib.hid hfirst
          have hlx := seqOk_len h1
          have hlp := seqOk_len h2
          clear hV hW h1 h2 hbest hfirst hm
          go_wp2_with fail
          refine H1.out.mono ?_
          rintro e w5 ⟨rfl, rfl⟩
          go_wp2_with fail
          refine H2.out.mono ?_
          rintro e w5 ⟨rfl, rfl⟩
          go_wp2_with fail
          refine HC0.out.mono ?_
          rintro e w5 ⟨rfl, n5, rfl⟩
          go_wp2
          clear z5 z6 z7 H1 H2 HC0 HAL
          go_loopw [7] (fun i wr => ∃ k n : Nat, k + ps.length ≤ xs.length + 1 ∧ i = .int .i64 k ∧ wr = w3.drewN n) (fun i _ => xs.length + 1 - (intOf i).toNat)
          case atStart => exact ⟨0, n5, by omega, rfl, rfl⟩
          case round =>
            obtain ⟨k, n, hk, rfl, rfl⟩ := hrel
            have hsum : -1000000000000 ≤ (k : Int) + (ps.length : Int) ∧ (k : Int) + (ps.length : Int) ≤ 1000000000000 := by omega
            by_cases hlt : k + ps.length ≤ xs.length
            · have hlt' : (k : Int) + (ps.length : Int) ≤ (xs.length : Int) := by omega
              have HCk := Lib.hid (HC.out k n hlt)
              have hb1 := HBest.out k hlt
              have hf1 := HFirst.out k
              obtain ⟨y, hy⟩ : ∃ y, y = cS xs ps k := ⟨_, rfl⟩
              rw [← hy] at hb1 hf1 HCk
              have z1 : decide (m < y) = false := by simp; omega
              have z2 : (y == m) = decide (y = m) := by rw [Bool.eq_iff_iff, beq_iff_eq, decide_eq_true_iff]
              have hk66 : k ≤ 66 := by omega
              by_cases hym : y = m
              · have z3 : (y == m) = true := by rw [beq_iff_eq]; exact hym
                have z4 : decide ((k : Int) < (g : Int)) = false := by
                  rw [decide_eq_false_iff_not]
                  intro h
                  have := hf1 (by omega)
                  omega
                have hkg : ¬ k < g := fun h => by
                  have := hf1 h
                  omega
                have z5 : decide (k < g) = false := by rw [decide_eq_false_iff_not]; exact hkg
                have r1 := wrapS hsum
                have r1' := wrapS' hsum
                clear hy hb1 hf1 hym hsum z2
                go_wp2_with (go_at_call 21; refine HCk.out.mono ?_; rintro e w' ⟨rfl, n2, rfl⟩)
                go_roundw
                case rel => exact ⟨k + 1, _, by omega, by go_num, rfl⟩
                case measure => simp [intOf]; omega
              · have z3 : (y == m) = false := by rw [beq_eq_false_iff_ne]; exact hym
                have r1 := wrapS hsum
                have r1' := wrapS' hsum
                clear hy hb1 hf1 hym hsum z2
                go_wp2_with (go_at_call 21; refine HCk.out.mono ?_; rintro e w' ⟨rfl, n2, rfl⟩)
                go_roundw
                case rel => exact ⟨k + 1, _, by omega, by go_num, rfl⟩
                case measure => simp [intOf]; omega
            · have hlt' : ¬ (k : Int) + (ps.length : Int) ≤ (xs.length : Int) := by omega
              have z8 : decide (0 ≤ (g : Int)) = true := by simp
              have r1 := wrapS hsum
              have r1' := wrapS' hsum
              clear hsum
              go_wp2
              go_ret
              exact ⟨rfl, below_drewN B3.out n⟩
        · obtain rfl : F = -1 := by rw [HF.out]; exact fpOr_no (fun h => h3 ⟨h.2.2.1, h.2.2.2⟩)
          rcases (show ps.length = 0 ∨ (0 < ps.length ∧ xs.length < ps.length) by omega) with h4 | ⟨h4, h5⟩
          · have z6 : ((ps.length : Int) == 0) = true := by simp [h4]
            clear hV hW h1 h2 h3 h4
            go_wp2_with fail
            refine H1.out.mono ?_
            rintro e w5 ⟨rfl, rfl⟩
            go_wp2_with fail
            refine H2.out.mono ?_
            rintro e w5 ⟨rfl, rfl⟩
            go_wp2_with fail
            refine HAL.out.mono ?_
            rintro e w8 ⟨rfl, b8⟩
            have B8 := Lib.hid b8
            clear b8
            go_wp2
            go_ret
            exact ⟨rfl, B8.out⟩
          · have z6 : ((ps.length : Int) == 0) = false := by rw [beq_eq_false_iff_ne]; omega
            have z7 : decide ((xs.length : Int) < (ps.length : Int)) = true := by simp; omega
            clear hV hW h1 h2 h3 h4
            go_wp2_with fail
            refine H1.out.mono ?_
            rintro e w5 ⟨rfl, rfl⟩
            go_wp2_with fail
            refine H2.out.mono ?_
            rintro e w5 ⟨rfl, rfl⟩
            go_wp2_with fail
            refine HAL.out.mono ?_
            rintro e w8 ⟨rfl, b8⟩
            have B8 := Lib.hid b8
            clear b8
            go_wp2
            go_ret
            exact ⟨rfl, B8.out⟩
  · go_enter Try.func6, Try.ntmps6
    go_wp2
    go_ret
    exact ⟨rfl, Below.refl _ _⟩
end Go.Proofs.Ytdnnpnaaohfgaaa
