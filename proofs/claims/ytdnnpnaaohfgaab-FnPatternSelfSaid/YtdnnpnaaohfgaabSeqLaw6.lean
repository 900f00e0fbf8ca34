/-
  The law that a pattern is found between zeros, walked: it returns true for every code, and writes into nothing that was there. No condition.
-/
import Derived.Test.YtdnnpnaaohfgaabSeqLaw3
namespace Go.Proofs.Ytdnnpnaaohfgaab
open Go.RowKit

theorem sil_zeros (ps : List Int) (n : Nat) : silL ps n = List.replicate n 0 ++ ps ++ zeros 9 := rfl
theorem seqOk_sil {ps : List Int} {n : Nat} (h : seqOk ps = true) (hn : n + ps.length + 9 ≤ 64) : seqOk (silL ps n) = true := by
  refine seqOk_good (fun i _ => ?_) (by rw [silL_length]; exact hn)
  rw [silL_el]
  unfold silF seqIn
  have := seqOk_in h (i - n)
  split <;> simp <;> omega
/-- Where a pattern between zeros is found, and how good that place is. -/
theorem self_facts {ps : List Int} {n : Nat} (h : seqOk ps = true) (hp : 0 < ps.length) (hn : n + ps.length + 9 ≤ 64) (h0 : cS ps ps 0 ≠ 0) : fpOr (silL ps n) ps = (n : Int) ∧ crOr (silL ps n) ps (n : Int) = cS ps ps 0 := by
  have hl := silL_length ps n
  have hs := seqOk_sil h hn
  constructor
  · rw [fpOr_yes hs h hp (by omega), sil_found h0]
  · rw [crOr_yes hs h (by omega)]
    show crS (silL ps n) ps n ps.length = crS ps ps 0 ps.length
    refine sqS_congr fun k _ => ?_
    rw [silL_el, silF, if_pos (by omega), Nat.add_sub_cancel_left, Nat.zero_add]

set_option maxHeartbeats 4000000 in
theorem walkPatternSelf (a : Option Addr) (c : Nat) (ds : List Int) (a' : Option Addr) (c' : Nat) (es : List Int) (w : World)
    (hx : Ints .u8 w w.heap.size a ds) (hw : ∀ n ∈ ds, (Lit.int .u8 n).wf = true) (hc : ds.length ≤ c) (hcm : c ≤ maxLen)
    (_hy : Ints .u8 w w.heap.size a' es) (_hw' : ∀ n ∈ es, (Lit.int .u8 n).wf = true) (_hc' : es.length ≤ c') (_hcm' : c' ≤ maxLen) :
    Calls Try.prog 4 #[.slice a ds.length c, .slice a' es.length c'] w fun e w' => e = .returned (.bool true) ∧ Below w.heap.size w w' := by
  have hb := isByte_of_wf hw
  clear hw _hy _hw' _hc' _hcm'
  by_cases hl : ds.length ≤ 1048576
  · by_cases hl' : es.length ≤ 1048576
    · go_enter Try.func4, Try.ntmps4
      go_wp2_with fail
      refine (drawFindPatternS_any a c ds w hx hb hc hcm).mono ?_
      rintro e w1 ⟨xs, b0, c0, ps, b1, c1, rfl, _, ⟨lp, _, _, j1⟩, bl, hsmall⟩
      have P1 := Lib.hid j1
      have B1 := Lib.hid bl
      clear hx hb hc hcm j1 bl
      have HAL := Lib.hid (alive_from B1.out)
      have hV := fun b h => seqV_is (some ⟨b1, 0, none⟩) c1 w1.heap.size ps w1 b P1.out h
      cases h1 : seqOk ps
      · have H1 := Lib.hid (hV false h1)
        clear hV h1
        go_wp2_with fail
        refine H1.out.mono ?_
        rintro e w5 ⟨rfl, rfl⟩
        go_wp2_with fail
        refine HAL.out.mono ?_
        rintro e w8 ⟨rfl, b8⟩
        have B8 := Lib.hid b8
        clear b8
        go_wp2
        go_ret
        exact ⟨rfl, B8.out⟩
      · have H1 := Lib.hid (hV true h1)
        have hlp := seqOk_len h1
        have hlp21 : ps.length ≤ 21 := by omega
        have hcr := correlateAt_any (some ⟨b1, 0, none⟩) (some ⟨b1, 0, none⟩) c1 c1 ps ps 0 w1 P1.out P1.out
        rw [show crOr ps ps 0 = cS ps ps 0 from crOr_yes (Q := 0) h1 h1 (by omega)] at hcr
        have HCR := Lib.hid hcr
        obtain ⟨A, hA⟩ : ∃ A, A = cS ps ps 0 := ⟨_, rfl⟩
        rw [← hA] at HCR
        have HCA := Lib.hid (show crOr ps ps 0 = A by rw [hA]; exact crOr_yes (Q := 0) h1 h1 (by omega))
        clear hV hcr hsmall
        by_cases hA0 : A = 0
        · have z1 : (A == 0) = true := by simp [hA0]
          clear hA hA0 h1
          go_wp2_with fail
          refine H1.out.mono ?_
          rintro e w5 ⟨rfl, rfl⟩
          go_wp2_with fail
          refine HCR.out.mono ?_
          rintro e w5 ⟨rfl, n5, rfl⟩
          go_wp2_with fail
          refine (alive_from (below_drewN B1.out n5)).mono ?_
          rintro e w8 ⟨rfl, b8⟩
          have B8 := Lib.hid b8
          clear b8
          go_wp2
          go_ret
          exact ⟨rfl, B8.out⟩
        · have z1 : (A == 0) = false := by rw [beq_eq_false_iff_ne]; exact hA0
          have hp0 : 0 < ps.length := by
            rcases Nat.eq_zero_or_pos ps.length with h | h
            · exact absurd (by rw [hA]; unfold cS crS; rw [h]; rfl) hA0
            · exact h
          obtain ⟨n, hn⟩ : ∃ n, n = es.length % 9 := ⟨_, rfl⟩
          have hn9 : n < 9 := by rw [hn]; exact Nat.mod_lt _ (by decide)
          obtain ⟨f1, f2⟩ := self_facts (n := n) h1 hp0 (by omega) (by rw [← hA]; exact hA0)
          rw [← hA] at f2
          have F1 := Lib.hid f1
          have F2 := Lib.hid f2
          have hlist : (silL ps n).length = n + ps.length + 9 := silL_length ps n
          have HLn := Lib.hid hlist
          have hmk := run_make_row' (P := Try.prog) 23 3 (.int .i64 0) 8 Try.underlying23 Try.infoInt rfl .i64 .i64 n (by omega) (by omega)
          have r1 : (es.length : Int).tmod 9 = (n : Int) := by rw [Int.tmod_eq_emod_of_nonneg (Int.natCast_nonneg _), hn]; rfl
          have r1' : (es.length : Int) % 9 = (n : Int) := by rw [hn]; rfl
          clear hA hA0 h1 hn f1 f2 hlist
          go_wp2_with fail
          refine H1.out.mono ?_
          rintro e w5 ⟨rfl, rfl⟩
          go_wp2_with fail
          refine HCR.out.mono ?_
          rintro e w5 ⟨rfl, n5, rfl⟩
          have P5 : Hid (Ints .i64 (w1.drewN n5) (w1.drewN n5).heap.size (some ⟨b1, 0, none⟩) ps) := P1.out
          have B5 := Lib.hid (below_drewN B1.out n5)
          clear P1 B1 H1 HCR HAL
          generalize w1.drewN n5 = w5 at *
          have G6 := Lib.hid (growSeq_made w5 w5.heap.size n (by omega) (Nat.le_refl _))
          have P6 := Lib.hid (P5.out.next (alloc_below w5 (.cells (madeCells #[.int .i64 0] n) 3)))
          go_wp2_with (first
            | (at_builtin; refine wpList_appendA (.tmp 37) (.tmp 38) w5.heap.size (some ⟨w5.heap.size, 0, none⟩) (some ⟨b1, 0, none⟩) n n ps.length c1 _ (List.replicate n 0) ps rfl rfl rfl rfl G6.out P6.out rfl (by omega) (by simp) ?_; intro a7 cap7 w7 hg7 hb7 hn7; have G7 := Lib.hid hg7; have HB7 := Lib.hid hb7; have hsz7 : w5.heap.size ≤ w7.heap.size := (by have := HB7.out.size; simp at this; omega); clear hg7 hb7 hn7)
            | (at_builtin; refine wpList_appendZ (.tmp 39) (.const (.int .i64 9)) w5.heap.size a7 (n + ps.length) cap7 9 (List.replicate n 0 ++ ps) rfl rfl rfl rfl G7.out (by omega) (by omega) hsz7 ?_; intro a8 cap8 w8 hg8 hb8 hn8; have G8 := Lib.hid hg8; have HB8 := Lib.hid hb8; clear hg8 hb8 hn8))
          have BB : Hid (Below w5.heap.size w5 w8) := ((alloc_below w5 (.cells (madeCells #[.int .i64 0] n) 3)).trans HB7.out).trans HB8.out
          have L8 : Hid (Ints .i64 w8 w8.heap.size a8 (silL ps n)) := G8.out.ints
          have P8 := Lib.hid (P5.out.next BB.out)
          have B8 := Lib.hid (Below.next B5.out (Nat.le_refl _) BB.out)
          have h9 := findPattern_any a8 (some ⟨b1, 0, none⟩) cap8 c1 (silL ps n) ps w8 L8.out P8.out
          rw [F1.out, HLn.out] at h9
          have H9 := Lib.hid h9
          clear G6 P6 G7 HB7 G8 HB8 BB P5 B5 h9 r1 r1' hmk
          try go_wp2_with fail
          refine H9.out.mono ?_
          rintro e w9 ⟨rfl, n9, rfl⟩
          have L9 : Hid (Ints .i64 (w8.drewN n9) (w8.drewN n9).heap.size a8 (silL ps n)) := L8.out
          have P9 : Hid (Ints .i64 (w8.drewN n9) (w8.drewN n9).heap.size (some ⟨b1, 0, none⟩) ps) := P8.out
          have B9 := Lib.hid (below_drewN B8.out n9)
          clear L8 P8 B8 H9
          generalize w8.drewN n9 = w9 at *
          have h10 := specFindPattern_any a8 (some ⟨b1, 0, none⟩) cap8 c1 (silL ps n) ps w9 L9.out P9.out (by rw [HLn.out]; unfold maxLen; omega) (by unfold maxLen; omega)
          rw [F1.out, HLn.out] at h10
          have H10 := Lib.hid h10
          have z2 : ((n : Int) == (n : Int)) = true := by simp
          have z3 : (A == A) = true := by simp
          clear h10
          go_wp2_with fail
          refine H10.out.mono ?_
          rintro e w10 ⟨rfl, n10, rfl⟩
          have L10 : Hid (Ints .i64 (w9.drewN n10) (w9.drewN n10).heap.size a8 (silL ps n)) := L9.out
          have P10 : Hid (Ints .i64 (w9.drewN n10) (w9.drewN n10).heap.size (some ⟨b1, 0, none⟩) ps) := P9.out
          have B10 := Lib.hid (below_drewN B9.out n10)
          clear L9 P9 B9 H10
          generalize w9.drewN n10 = w10 at *
          have h11 := correlateAt_any a8 (some ⟨b1, 0, none⟩) cap8 c1 (silL ps n) ps (n : Int) w10 L10.out P10.out
          rw [F2.out, HLn.out] at h11
          have H11 := Lib.hid h11
          clear h11
          go_wp2_with fail
          refine H11.out.mono ?_
          rintro e w11 ⟨rfl, n11, rfl⟩
          have P11 : Hid (Ints .i64 (w10.drewN n11) (w10.drewN n11).heap.size (some ⟨b1, 0, none⟩) ps) := P10.out
          have B11 := Lib.hid (below_drewN B10.out n11)
          clear L10 P10 B10 H11
          generalize w10.drewN n11 = w11 at *
          have h12 := correlateAt_any (some ⟨b1, 0, none⟩) (some ⟨b1, 0, none⟩) c1 c1 ps ps 0 w11 P11.out P11.out
          rw [HCA.out] at h12
          have H12 := Lib.hid h12
          clear h12
          go_wp2_with fail
          refine H12.out.mono ?_
          rintro e w12 ⟨rfl, n12, rfl⟩
          go_wp2
          go_ret
          exact ⟨rfl, below_drewN B11.out n12⟩
    · go_enter Try.func4, Try.ntmps4
      go_wp2
      go_ret
      exact ⟨rfl, Below.refl _ _⟩
  · go_enter Try.func4, Try.ntmps4
    go_wp2
    go_ret
    exact ⟨rfl, Below.refl _ _⟩
end Go.Proofs.Ytdnnpnaaohfgaab
