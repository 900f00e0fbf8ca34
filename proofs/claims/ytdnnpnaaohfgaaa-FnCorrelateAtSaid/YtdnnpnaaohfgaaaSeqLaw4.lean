/-
  The law of CorrelateAt, walked: it returns true for every code, and writes into nothing that was there. No condition.
-/
import Derived.Test.YtdnnpnaaohfgaaaSeqLaw3
namespace Go.Proofs.Ytdnnpnaaohfgaaa
open Go.RowKit

theorem seqOk_reverse (xs : List Int) : seqOk xs.reverse = seqOk xs := by simp [seqOk, List.all_reverse]
/-- The correlation is a number of the filtered sequence. -/
theorem corr_facts {xs ps : List Int} {Q : Nat} (h1 : seqOk xs = true) (h2 : seqOk ps = true) (h3 : 0 < ps.length) (h4 : Q + ps.length ≤ xs.length) :
    fltOr xs ps.reverse = cvL xs ps.reverse ∧ (cvL xs ps.reverse).length = xs.length + ps.length - 1 ∧ el (cvL xs ps.reverse) (Q + ps.length - 1) = crOr xs ps (Q : Int) := by
  refine ⟨fltOr_yes h1 (by rw [seqOk_reverse]; exact h2) (by omega) (by simpa using h3), by rw [cvL_length, List.length_reverse], ?_⟩
  rw [cvL_el (by omega), crOr_yes h1 h2 h4, crS_cv h3]
theorem rev_snoc {ps : List Int} {m : Nat} (h : m < ps.length) : ps.reverse.take (m + 1) = ps.reverse.take m ++ [el ps (ps.length - 1 - m)] := by
  rw [take_el (by simpa using h), el_reverse h]

set_option maxHeartbeats 4000000 in
theorem walkCorrelateAt (a : Option Addr) (c : Nat) (ds : List Int) (w : World) (hx : Ints .u8 w w.heap.size a ds) (hw : ∀ n ∈ ds, (Lit.int .u8 n).wf = true) (hc : ds.length ≤ c) (hcm : c ≤ maxLen) :
    Calls Try.prog 5 #[.slice a ds.length c] w fun e w' => e = .returned (.bool true) ∧ Below w.heap.size w w' := by
  have hb := isByte_of_wf hw
  clear hw
  by_cases hl : ds.length ≤ 1048576
  · go_enter Try.func5, Try.ntmps5
    go_wp2_with fail
    refine (drawCorrelateAt_any a c ds w hx hb hc hcm).mono ?_
    rintro e w1 ⟨xs, b0, c0, ps, b1, c1, q, rfl, ⟨q1, q2⟩, ⟨lx, _, _, i1⟩, ⟨lp, _, _, j1⟩, bl⟩
    have X1 := Lib.hid i1
    have P1 := Lib.hid j1
    have B1 := Lib.hid bl
    clear hx hb hc hcm i1 j1 bl
    obtain ⟨F, hF⟩ : ∃ F, F = crOr xs ps q := ⟨_, rfl⟩
    have HF := Lib.hid hF
    have z5 : (F != F) = false := by simp
    clear hF
    go_wp2_with fail
    refine (correlateAt_any _ _ c0 c1 xs ps q w1 X1.out P1.out).mono ?_
    rw [← HF.out]
    rintro e w2 ⟨rfl, n2, rfl⟩
    have X2 : Hid (Ints .i64 (w1.drewN n2) (w1.drewN n2).heap.size (some ⟨b0, 0, none⟩) xs) := X1.out
    have P2 : Hid (Ints .i64 (w1.drewN n2) (w1.drewN n2).heap.size (some ⟨b1, 0, none⟩) ps) := P1.out
    have B2 := Lib.hid (below_drewN B1.out n2)
    clear X1 P1 B1
    generalize w1.drewN n2 = w2 at *
    go_wp2_with fail
    refine (specCorrelateAt_any _ _ c0 c1 xs ps q w2 X2.out P2.out (by unfold maxLen; omega) (by unfold maxLen; omega)).mono ?_
    rw [← HF.out]
    rintro e w3 ⟨rfl, n3, rfl⟩
    have X3 : Hid (Ints .i64 (w2.drewN n3) (w2.drewN n3).heap.size (some ⟨b0, 0, none⟩) xs) := X2.out
    have P3 : Hid (Ints .i64 (w2.drewN n3) (w2.drewN n3).heap.size (some ⟨b1, 0, none⟩) ps) := P2.out
    have B3 := Lib.hid (below_drewN B2.out n3)
    clear X2 P2 B2
    generalize w2.drewN n3 = w3 at *
    have HAL := Lib.hid (alive_from B3.out)
    have hV := fun b h => seqV_is (some ⟨b0, 0, none⟩) c0 w3.heap.size xs w3 b X3.out h
    have hW := fun b h => seqV_is (some ⟨b1, 0, none⟩) c1 w3.heap.size ps w3 b P3.out h
    cases h1 : seqOk xs
    · have H1 := Lib.hid (hV false h1)
      obtain rfl : F = 0 := by rw [HF.out]; exact crOr_no (by simp [h1])
      clear hV hW h1
      go_wp2_with fail
      refine H1.out.mono ?_
      rintro e w5 ⟨rfl, rfl⟩
      go_wp2_with fail
      refine HAL.out.mono ?_
      rintro e w8 ⟨rfl, b8⟩
      have B8 := Lib.hid b8
      clear b8
      go_wp2
      go_ret
      exact ⟨rfl, B8.out⟩
    · have H1 := Lib.hid (hV true h1)
      cases h2 : seqOk ps
      · have H2 := Lib.hid (hW false h2)
        obtain rfl : F = 0 := by rw [HF.out]; exact crOr_no (by simp [h2])
        clear hV hW h1 h2
        go_wp2_with fail
        refine H1.out.mono ?_
        rintro e w5 ⟨rfl, rfl⟩
        go_wp2_with fail
        refine H2.out.mono ?_
        rintro e w5 ⟨rfl, rfl⟩
        go_wp2_with fail
        refine HAL.out.mono ?_
        rintro e w8 ⟨rfl, b8⟩
        have B8 := Lib.hid b8
        clear b8
        go_wp2
        go_ret
        exact ⟨rfl, B8.out⟩
      · have H2 := Lib.hid (hW true h2)
        have hlx := seqOk_len h1
        have hlp := seqOk_len h2
        have hdb : -1000000000000 ≤ (xs.length : Int) - (ps.length : Int) ∧ (xs.length : Int) - (ps.length : Int) ≤ 1000000000000 := by omega
        rcases (show q < 0 ∨ (0 ≤ q ∧ (xs.length : Int) - ps.length < q) ∨ (0 ≤ q ∧ q ≤ (xs.length : Int) - ps.length ∧ ps.length = 0) ∨ (0 ≤ q ∧ q ≤ (xs.length : Int) - ps.length ∧ 0 < ps.length) by omega) with h3 | ⟨h3, h4⟩ | ⟨h3, h4, h5⟩ | ⟨h3, h4, h5⟩
        · obtain rfl : F = 0 := by rw [HF.out]; exact crOr_no (by omega)
          clear hV hW h1 h2 hdb
          go_wp2_with fail
          refine H1.out.mono ?_
          rintro e w5 ⟨rfl, rfl⟩
          go_wp2_with fail
          refine H2.out.mono ?_
          rintro e w5 ⟨rfl, rfl⟩
          go_wp2_with fail
          refine HAL.out.mono ?_
          rintro e w8 ⟨rfl, b8⟩
          have B8 := Lib.hid b8
          clear b8
          go_wp2
          go_ret
          exact ⟨rfl, B8.out⟩
        · obtain rfl : F = 0 := by rw [HF.out]; exact crOr_no (by omega)
          have z1 : decide (q < 0) = false := by simp; omega
          have z2 : decide ((xs.length : Int) - (ps.length : Int) < q) = true := by simp; omega
          have r1 := wrapS hdb
          have r1' := wrapS' hdb
          clear hV hW h1 h2 hdb hlx hlp
          go_wp2_with fail
          refine H1.out.mono ?_
          rintro e w5 ⟨rfl, rfl⟩
          go_wp2_with fail
          refine H2.out.mono ?_
          rintro e w5 ⟨rfl, rfl⟩
          go_wp2_with fail
          refine HAL.out.mono ?_
          rintro e w8 ⟨rfl, b8⟩
          have B8 := Lib.hid b8
          clear b8
          go_wp2
          go_ret
          exact ⟨rfl, B8.out⟩
        · obtain ⟨Q, rfl⟩ := Int.eq_ofNat_of_zero_le h3
          obtain rfl : F = 0 := by rw [HF.out, crOr_yes h1 h2 (by omega), h5]; rfl
          have z1 : decide ((Q : Int) < 0) = false := by simp
          have z2 : decide ((xs.length : Int) - (ps.length : Int) < (Q : Int)) = false := by simp; omega
          have z3 : ((ps.length : Int) == 0) = true := by simp [h5]
          have r1 := wrapS hdb
          have r1' := wrapS' hdb
          clear hV hW h1 h2 hdb hlx hlp h5
          go_wp2_with fail
          refine H1.out.mono ?_
          rintro e w5 ⟨rfl, rfl⟩
          go_wp2_with fail
          refine H2.out.mono ?_
          rintro e w5 ⟨rfl, rfl⟩
          go_wp2_with fail
          refine HAL.out.mono ?_
          rintro e w8 ⟨rfl, b8⟩
          have B8 := Lib.hid b8
          clear b8
          go_wp2
          go_ret
          exact ⟨rfl, B8.out⟩
        · obtain ⟨Q, rfl⟩ := Int.eq_ofNat_of_zero_le h3
          obtain ⟨f1, f2, f3⟩ := corr_facts (Q := Q) h1 h2 h5 (by omega)
          rw [← HF.out] at f3
          obtain ⟨Z, hZ⟩ : ∃ Z, Z = cvL xs ps.reverse := ⟨_, rfl⟩
          rw [← hZ] at f1 f2 f3
          have F1 := Lib.hid f1
          have F2 := Lib.hid f2
          have F3 := Lib.hid f3
          have z1 : decide ((Q : Int) < 0) = false := by simp
          have z2 : decide ((xs.length : Int) - (ps.length : Int) < (Q : Int)) = false := by simp; omega
          have z3 : ((ps.length : Int) == 0) = false := by rw [beq_eq_false_iff_ne]; omega
          have hQ : Q + ps.length ≤ xs.length := by omega
          have hp1 : -1000000000000 ≤ (ps.length : Int) - 1 ∧ (ps.length : Int) - 1 ≤ 1000000000000 := by omega
          have r1 := wrapS hdb
          have r1' := wrapS' hdb
          have r2 := wrapS hp1
          have r2' := wrapS' hp1
          clear hV hW h1 h2 hdb hZ f1 f2 f3 hp1
          go_wp2_with fail
          refine H1.out.mono ?_
          rintro e w5 ⟨rfl, rfl⟩
          go_wp2_with fail
          refine H2.out.mono ?_
          rintro e w5 ⟨rfl, rfl⟩
          go_wp2
          try rw [r2']
          clear r1 r1' r2 r2' z1 z2 z3 HAL H1 H2
          go_loopw [7, 8] (fun s i wr => ∃ (m : Nat) (v : Option Addr) (cap : Nat), m ≤ ps.length ∧ i = .int .i64 ((ps.length : Int) - 1 - (m : Int)) ∧ s = .slice v m cap ∧ Grow .i64 3 wr w3.heap.size v m cap (ps.reverse.take m) ∧ Below w3.heap.size w3 wr) (fun _ i _ => (intOf i + 1).toNat)
          case atStart => exact ⟨0, _, _, Nat.zero_le _, by congr 1; omega, rfl, Grow.lit0 _ _ _ _ (Nat.le_refl _), alloc_below w3 _⟩
          case round =>
            obtain ⟨m, v, cap, hm, rfl, rfl, hgr, hbel⟩ := hrel
            have HG := Lib.hid hgr
            have HB := Lib.hid hbel
            have hsz : w3.heap.size ≤ wr.heap.size := hbel.size
            clear hgr
            by_cases hlt : m < ps.length
            · obtain ⟨j, hj⟩ : ∃ j, j = ps.length - 1 - m := ⟨_, rfl⟩
              have hjl : j < ps.length := by omega
              have hji : (ps.length : Int) - 1 - (m : Int) = (j : Int) := by omega
              obtain ⟨bb, off, e1, _, hcc⟩ := (P3.out.below hbel).at_ hjl
              injection e1 with e1
              injection e1 with e1 e2
              subst e1 e2
              rw [Nat.zero_add] at hcc
              have HT := Lib.hid (show ps.reverse.take (m + 1) = ps.reverse.take m ++ [el ps j] by rw [rev_snoc hlt, hj])
              have HJ := Lib.hid (show (j : Int) - 1 = (ps.length : Int) - 1 - ((m + 1 : Nat) : Int) by omega)
              rw [hji]
              clear hbel hj hji
              go_wp2_with (at_builtin; refine wpList_append1 (.tmp 68) (.tmp 73) w3.heap.size v m cap (ps.reverse.take m) ⟨wr.heap.size, 0, none⟩ (el ps j) rfl rfl rfl rfl (HG.out.alloc _) (by simp) (by omega) (by simp; omega) ?_; intro a5 cap5 w5 hg5 hb5; have HG5 := Lib.hid hg5; have HB5 := Lib.hid hb5; clear hg5 hb5)
              go_roundw
              case rel => exact ⟨m + 1, a5, cap5, by omega, by rw [← HJ.out], rfl, by rw [HT.out]; exact HG5.out, (HB.out.alloc hsz _).trans HB5.out⟩
              case measure => simp [intOf]
            · obtain rfl : ps.length = m := by omega
              have hji : (ps.length : Int) - 1 - (ps.length : Int) = -1 := by omega
              have hrl : ps.reverse.take ps.length = ps.reverse := List.take_of_length_le (by simp)
              have HGr : Hid (Ints .i64 wr wr.heap.size v ps.reverse) := by
                have := HG.out.ints
                rw [hrl] at this
                exact this
              have XW := Lib.hid (X3.out.next HB.out)
              have BW := Lib.hid (Below.next B3.out (Nat.le_refl _) HB.out)
              have h9 := filter_any (some ⟨b0, 0, none⟩) v c0 cap xs ps.reverse wr XW.out HGr.out
              rw [F1.out, List.length_reverse] at h9
              have H9 := Lib.hid h9
              have hZl : Z.length = xs.length + ps.length - 1 := F2.out
              have hpos : Q + ps.length - 1 < Z.length := by omega
              obtain ⟨g, hg⟩ : ∃ g, g = Q + ps.length - 1 := ⟨_, rfl⟩
              have F3' := F3.out
              rw [← hg] at hpos F3'
              obtain ⟨s, hs⟩ : ∃ s : Int, s = (xs.length : Int) + (ps.length : Int) := ⟨_, rfl⟩
              obtain ⟨t, ht⟩ : ∃ t : Int, t = s - 1 := ⟨_, rfl⟩
              obtain ⟨u, hu⟩ : ∃ u : Int, u = (Q : Int) + (ps.length : Int) := ⟨_, rfl⟩
              have hgu : (g : Int) = u - 1 := by omega
              have z6 : ((Z.length : Int) == t) = true := by rw [beq_iff_eq]; omega
              have z7 : (F == F) = true := by simp
              have R1 : Hid (IntKind.i64.wrap ((xs.length : Int) + (ps.length : Int)) = s ∧ wrap64 ((xs.length : Int) + (ps.length : Int)) = s) := by rw [← hs]; exact ⟨wrapS (by omega), wrapS' (by omega)⟩
              have R2 : Hid (IntKind.i64.wrap (s - 1) = t ∧ wrap64 (s - 1) = t) := by rw [← ht]; exact ⟨wrapS (by omega), wrapS' (by omega)⟩
              have R3 : Hid (IntKind.i64.wrap ((Q : Int) + (ps.length : Int)) = u ∧ wrap64 ((Q : Int) + (ps.length : Int)) = u) := by rw [← hu]; exact ⟨wrapS (by omega), wrapS' (by omega)⟩
              have R4 : Hid (IntKind.i64.wrap (u - 1) = (g : Int) ∧ wrap64 (u - 1) = (g : Int)) := by rw [← hgu]; exact ⟨wrapS (by omega), wrapS' (by omega)⟩
              rw [hji]
              clear hbel hji hrl h9 hg hs ht hu hgu hZl
              go_wp2_with fail
              refine H9.out.mono ?_
              rintro e w6 ⟨v6, cv6, rfl, _, o6, b6⟩
              obtain ⟨b6', off6, e6, _, hc6⟩ := (own_of_list o6).ints.at_ hpos
              subst e6
              rw [F3'] at hc6
              have B6 := Lib.hid (Below.next BW.out (Nat.le_refl _) b6)
              have hpos' : (g : Int) < (Z.length : Int) := by omega
              clear o6 b6 F3'
              obtain ⟨r1, r1'⟩ := R1.out
              obtain ⟨r2, r2'⟩ := R2.out
              obtain ⟨r3, r3'⟩ := R3.out
              obtain ⟨r4, r4'⟩ := R4.out
              go_wp2
              go_ret
              exact ⟨rfl, B6.out⟩
  · go_enter Try.func5, Try.ntmps5
    go_wp2
    go_ret
    exact ⟨rfl, Below.refl _ _⟩
end Go.Proofs.Ytdnnpnaaohfgaaa
