/-
  What FilterSequence and its model answer, for every two lists. Condition: the lists can be read; the model: the lengths can be.
-/
import Derived.Test.YtdnnpnaaohfgaaaSeq1
import Derived.Test.YtdnnpnaaohfgaaaOne
import Derived.StillTailTactics
import Derived.StillTail
namespace Go.Proofs.Ytdnnpnaaohfgaaa
open Go.RowKit

/-- Cell m of the convolution of two lists, when i rows and j numbers of the next are added. -/
def cvX (xs ys : List Int) (i j m : Nat) : Int := cvR (el xs) (el ys) i j m
theorem cvX_start (xs ys : List Int) (m : Nat) : cvX xs ys 0 0 m = 0 := cvR_start _ _ m
theorem cvX_row (xs ys : List Int) (i m : Nat) : cvX xs ys i ys.length m = cvX xs ys (i + 1) 0 m := cvR_row (fun _ h => el_out h) i m
theorem cvX_done {xs ys : List Int} (hx : 0 < xs.length) (m : Nat) : cvX xs ys xs.length 0 m = el (cvL xs ys) m := by
  rw [cvL_el hx]; exact cvR_done (fun _ h => el_out h) m
/-- One product added to its cell. -/
theorem row_cvX {w : World} {b : Nat} {t : TypeId} {n i j : Nat} {xs ys : List Int} (h : w.rowIs b t n fun m => .int .i64 (cvX xs ys i j m)) {v : Int} (hv : v = cvX xs ys i j (i + j) + el xs i * el ys j) :
    (w.setCell ⟨b, i + j, none⟩ (.int .i64 v)).rowIs b t n fun m => .int .i64 (cvX xs ys i (j + 1) m) := by
  refine (h.set (i + j) (.int .i64 v)).congr fun m _ => ?_
  unfold cvX at *
  by_cases e : m = i + j
  · subst e; simp [cvR_step, hv]
  · simp [e, cvR_step]
theorem cvX_in {xs ys : List Int} (hx : seqOk xs = true) (hy : seqOk ys = true) {i j m : Nat} (hi : i ≤ 200) : -1000000000 ≤ cvX xs ys i j m ∧ cvX xs ys i j m ≤ 1000000000 := cvR_in hx hy hi
theorem wrapS {n : Int} (h : -1000000000000 ≤ n ∧ n ≤ 1000000000000) : IntKind.i64.wrap n = n := by rw [IntKind.wrap_i64]; omega
theorem wrapS' {n : Int} (h : -1000000000000 ≤ n ∧ n ≤ 1000000000000) : wrap64 n = n := by unfold wrap64; omega
/-- The numbers of one product. -/
theorem cv_nums {xs ys : List Int} (hx : seqOk xs = true) (hy : seqOk ys = true) {i j : Nat} (hi : i < xs.length) : ∃ p q u v z : Int, p = el xs i ∧ q = el ys j ∧ u = p * q ∧ z = cvX xs ys i j (i + j) ∧ v = z + u ∧
    (-1000000000000 ≤ u ∧ u ≤ 1000000000000) ∧ (-1000000000000 ≤ v ∧ v ≤ 1000000000000) := by
  have h1 := prod_in (seqOk_in hx i) (seqOk_in hy j)
  have h2 := cvX_in hx hy (i := i) (j := j) (m := i + j) (by have := seqOk_len hx; omega)
  exact ⟨_, _, _, _, _, rfl, rfl, rfl, rfl, rfl, by omega, by omega⟩

set_option maxHeartbeats 2000000 in
theorem convolution_any (a a' : Option Addr) (c c' : Nat) (xs ys : List Int) (w : World) (hx : Ints .i64 w w.heap.size a xs) (hy : Ints .i64 w w.heap.size a' ys)
    (hxo : seqOk xs = true) (hyo : seqOk ys = true) (hx0 : 0 < xs.length) (hy0 : 0 < ys.length) :
    Calls Try.prog 40 #[.slice a xs.length c, .slice a' ys.length c'] w (ListPostC (cvL xs ys) w) := by
  have hal := fun o : Obj => (Below.refl w.heap.size w).alloc (Nat.le_refl _) o
  have HA := Lib.hid hal
  have HX := Lib.hid hx
  have HY := Lib.hid hy
  have HOX := Lib.hid hxo
  have HOY := Lib.hid hyo
  have hlx := seqOk_len hxo
  have hly := seqOk_len hyo
  obtain ⟨N, hN⟩ : ∃ N, N = xs.length + ys.length - 1 := ⟨_, rfl⟩
  have hN1 : (xs.length : Int) + (ys.length : Int) - 1 = (N : Int) := by omega
  have HN := Lib.hid hN
  have hN2 : N ≤ 127 := by omega
  have HL := Lib.hid (And.intro hlx hly)
  have HP := Lib.hid (And.intro hx0 hy0)
  have hmk := run_make_row' (P := Try.prog) 47 3 (.int .i64 0) 8 Try.underlying47 Try.infoInt rfl .i64 .i64 N (by omega) (by omega)
  have r1 : IntKind.i64.wrap ((xs.length : Int) + (ys.length : Int)) = (N : Int) + 1 := by rw [wrapS (by omega)]; omega
  have r2 : IntKind.i64.wrap ((N : Int) + 1 - 1) = (N : Int) := by rw [wrapS (by omega)]; omega
  have r1' : wrap64 ((xs.length : Int) + (ys.length : Int)) = (N : Int) + 1 := by rw [wrapS' (by omega)]; omega
  have r2' : wrap64 ((N : Int) + 1 - 1) = (N : Int) := by rw [wrapS' (by omega)]; omega
  clear hx hy hxo hyo hal hlx hly hx0 hy0 hN hN1
  go_enter Try.func40, Try.ntmps40
  go_wp2
  clear r1 r2 r1' r2' hmk
  go_loopw [19] (fun i wr => ∃ k : Nat, k ≤ xs.length ∧ i = .int .i64 k ∧ wr.rowIs w.heap.size 3 N (fun m => .int .i64 (cvX xs ys k 0 m)) ∧ Below w.heap.size w wr) (fun i _ => xs.length - (intOf i).toNat)
  case atStart =>
    refine ⟨0, Nat.zero_le _, rfl, ?_, HA.out _⟩
    exact (World.rowIs_made w (.int .i64 0) N 3).congr (by intro j hj; simp [cvX_start])
  case round =>
    obtain ⟨k, hk, rfl, hrow, hbel⟩ := hrel
    have HR := Lib.hid hrow
    have HB := Lib.hid hbel
    have hk64 : k ≤ 64 := Nat.le_trans hk HL.out.1
    by_cases hlt : k < xs.length
    · obtain ⟨b, off, rfl, hb, hc⟩ := (HX.out.below hbel).at_ hlt
      clear hrow hbel hb
      go_wp2
      rename World => W0
      go_loopw [26] (fun i wr => ∃ q : Nat, q ≤ ys.length ∧ i = .int .i64 q ∧ wr.rowIs w.heap.size 3 N (fun m => .int .i64 (cvX xs ys k q m)) ∧ Below w.heap.size w wr) (fun i _ => ys.length - (intOf i).toNat)
      case atStart => exact ⟨0, Nat.zero_le _, rfl, HR.out, HB.out⟩
      case round =>
        obtain ⟨q, hq, rfl, hrow2, hbel2⟩ := hrel
        have HB2 := Lib.hid hbel2
        have hq64 : q ≤ 64 := Nat.le_trans hq HL.out.2
        by_cases hlq : q < ys.length
        · obtain ⟨b', off', rfl, hb', hc'⟩ := (HY.out.below hbel2).at_ hlq
          obtain ⟨p, s, u, v, z, hp, hs, hu, hz, hv, ku, kv⟩ := cv_nums (j := q) HOX.out HOY.out hlt
          have hpos : k + q < N := by have := HN.out; omega
          have H2 := Lib.hid (row_cvX hrow2 (v := v) (by rw [hv, hz, hu, hp, hs]))
          have hf := hrow2.frozen (k + q)
          have hcv := hrow2.cell hpos
          have hB := Lib.hid (hbel2.setCell (p := ⟨w.heap.size, k + q, none⟩) (Nat.le_refl _) (.int .i64 v))
          rw [← hz] at hcv
          rw [← hs] at hc'
          rw [← hp] at *
          have r1 : IntKind.i64.wrap (p * s) = u := by rw [← hu]; exact wrapS ku
          have r1' : wrap64 (p * s) = u := by rw [← hu]; exact wrapS' ku
          have r2 : IntKind.i64.wrap (z + u) = v := by rw [← hv]; exact wrapS kv
          have r2' : wrap64 (z + u) = v := by rw [← hv]; exact wrapS' kv
          obtain ⟨g, hg⟩ : ∃ g, g = k + q := ⟨_, rfl⟩
          rw [← hg] at hcv hf hpos H2 hB
          have r3 : IntKind.i64.wrap ((k : Int) + (q : Int)) = (g : Int) := by rw [wrapS (by omega)]; omega
          have r3' : wrap64 ((k : Int) + (q : Int)) = (g : Int) := by rw [wrapS' (by omega)]; omega
          clear hrow2 hbel2 hb' hp hs hu hz hv ku kv hg
          go_wp2
          go_roundw
          case rel => exact ⟨q + 1, by omega, by go_num, H2.out, hB.out⟩
          case measure => simp [intOf]; omega
        · obtain rfl : ys.length = q := by omega
          have HR2 := Lib.hid (hrow2.congr (g := fun m => .int .i64 (cvX xs ys (k + 1) 0 m)) (by intro m _; simp [cvX_row]))
          clear hrow2 hbel2
          go_wp2
          go_roundw
          case rel => exact ⟨k + 1, by omega, by go_num, HR2.out, HB2.out⟩
          case measure => simp [intOf]; omega
    · obtain rfl : xs.length = k := by omega
      have HR2 := Lib.hid (hrow.congr (g := fun m => .int .i64 (el (cvL xs ys) m)) (by intro m _; simp [cvX_done HP.out.1]))
      have HLn := Lib.hid (show N = (cvL xs ys).length by rw [cvL_length, HN.out])
      clear hrow hbel
      go_wp2
      go_ret
      exact listPostC_row HR2.out HLn.out (by unfold maxLen; omega) (Nat.le_refl _) HB.out
set_option maxHeartbeats 1000000 in
theorem filter_any (a a' : Option Addr) (c c' : Nat) (xs ys : List Int) (w : World) (hx : Ints .i64 w w.heap.size a xs) (hy : Ints .i64 w w.heap.size a' ys) :
    Calls Try.prog 17 #[.slice a xs.length c, .slice a' ys.length c'] w (ListPostC (fltOr xs ys) w) := by
  have HV := Lib.hid (fun b h => seqValid_is a c w.heap.size xs w b hx h)
  have HW := Lib.hid (fun b h => seqValid_is a' c' w.heap.size ys w b hy h)
  cases h1 : seqOk xs
  · have H1 := Lib.hid (HV.out false h1)
    have HE := Lib.hid (fltOr_no (xs := xs) (ys := ys) (by simp [h1]))
    clear hx hy HV HW h1
    go_enter Try.func17, Try.ntmps17
    go_wp2_with (go_at_call 37; ((with_reducible refine H1.out.mono ?_); rintro e w' ⟨rfl, rfl⟩))
    go_ret
    rw [HE.out]
    exact listPostC_nil (Below.refl _ _)
  · have H1 := Lib.hid (HV.out true h1)
    cases h2 : seqOk ys
    · have H2 := Lib.hid (HW.out false h2)
      have HE := Lib.hid (fltOr_no (xs := xs) (ys := ys) (by simp [h2]))
      clear hx hy HV HW h1 h2
      go_enter Try.func17, Try.ntmps17
      go_wp2_with (first | (go_at_call 37; ((with_reducible refine H1.out.mono ?_); rintro e w' ⟨rfl, rfl⟩)) | (go_at_call 37; ((with_reducible refine H2.out.mono ?_); rintro e w' ⟨rfl, rfl⟩)))
      go_ret
      rw [HE.out]
      exact listPostC_nil (Below.refl _ _)
    · have H2 := Lib.hid (HW.out true h2)
      by_cases h3 : 0 < xs.length
      · have z3 : ((xs.length : Int) == 0) = false := by rw [beq_eq_false_iff_ne]; omega
        by_cases h4 : 0 < ys.length
        · have z4 : ((ys.length : Int) == 0) = false := by rw [beq_eq_false_iff_ne]; omega
          have HC := Lib.hid (convolution_any a a' c c' xs ys w hx hy h1 h2 h3 h4)
          have HE := Lib.hid (fltOr_yes h1 h2 h3 h4)
          clear hx hy HV HW h1 h2 h3 h4
          go_enter Try.func17, Try.ntmps17
          go_wp2_with (first | (go_at_call 37; ((with_reducible refine H1.out.mono ?_); rintro e w' ⟨rfl, rfl⟩)) | (go_at_call 37; ((with_reducible refine H2.out.mono ?_); rintro e w' ⟨rfl, rfl⟩)) | (go_at_call 40; refine HC.out.mono ?_; rintro e w1 ⟨v1, cv1, rfl, r1, o1, b1⟩; have HP : Hid (ListPostC (cvL xs ys) w (.returned (.slice v1 (cvL xs ys).length cv1)) w1) := ⟨v1, cv1, rfl, r1, o1, b1⟩; clear r1 o1 b1; rw [← HE.out] at *; generalize (fltOr xs ys).length = m at *))
          go_ret
          exact HP.out
        · have z4 : ((ys.length : Int) == 0) = true := by rw [beq_iff_eq]; omega
          have HE := Lib.hid (fltOr_no (xs := xs) (ys := ys) (by omega))
          clear hx hy HV HW h1 h2 h3 h4
          go_enter Try.func17, Try.ntmps17
          go_wp2_with (first | (go_at_call 37; ((with_reducible refine H1.out.mono ?_); rintro e w' ⟨rfl, rfl⟩)) | (go_at_call 37; ((with_reducible refine H2.out.mono ?_); rintro e w' ⟨rfl, rfl⟩)))
          go_ret
          rw [HE.out]
          exact listPostC_nil (Below.refl _ _)
      · have z3 : ((xs.length : Int) == 0) = true := by rw [beq_iff_eq]; omega
        have HE := Lib.hid (fltOr_no (xs := xs) (ys := ys) (by omega))
        clear hx hy HV HW h1 h2 h3
        go_enter Try.func17, Try.ntmps17
        go_wp2_with (first | (go_at_call 37; ((with_reducible refine H1.out.mono ?_); rintro e w' ⟨rfl, rfl⟩)) | (go_at_call 37; ((with_reducible refine H2.out.mono ?_); rintro e w' ⟨rfl, rfl⟩)))
        go_ret
        rw [HE.out]
        exact listPostC_nil (Below.refl _ _)
set_option maxHeartbeats 2000000 in
theorem specFilter_any (a a' : Option Addr) (c c' : Nat) (xs ys : List Int) (w : World) (hx : Ints .i64 w w.heap.size a xs) (hy : Ints .i64 w w.heap.size a' ys) (hlx0 : xs.length ≤ maxLen) (hly0 : ys.length ≤ maxLen) :
    Calls Try.prog 19 #[.slice a xs.length c, .slice a' ys.length c'] w (ListPostC (fltOr xs ys) w) := by
  have hal := fun o : Obj => (Below.refl w.heap.size w).alloc (Nat.le_refl _) o
  have HA := Lib.hid hal
  have HV := Lib.hid (fun b h => specSeqValid_is a c w.heap.size xs w b hx hlx0 h)
  have HW := Lib.hid (fun b h => specSeqValid_is a' c' w.heap.size ys w b hy hly0 h)
  have HX := Lib.hid hx
  have HY := Lib.hid hy
  clear hal hx hy hlx0 hly0
  cases h1 : seqOk xs
  · have H1 := Lib.hid (HV.out false h1)
    have HE := Lib.hid (fltOr_no (xs := xs) (ys := ys) (by simp [h1]))
    clear HV HW h1
    go_enter Try.func19, Try.ntmps19
    go_wp2_with (go_at_call 14; ((with_reducible refine H1.out.mono ?_); rintro e w' ⟨rfl, rfl⟩))
    go_ret
    rw [HE.out]
    exact listPostC_grow (Grow.lit0 _ _ _ _ (Nat.le_refl _)) (HA.out _)
  · have H1 := Lib.hid (HV.out true h1)
    cases h2 : seqOk ys
    · have H2 := Lib.hid (HW.out false h2)
      have HE := Lib.hid (fltOr_no (xs := xs) (ys := ys) (by simp [h2]))
      clear HV HW h1 h2
      go_enter Try.func19, Try.ntmps19
      go_wp2_with (first | (go_at_call 14; ((with_reducible refine H1.out.mono ?_); rintro e w' ⟨rfl, rfl⟩)) | (go_at_call 14; ((with_reducible refine H2.out.mono ?_); rintro e w' ⟨rfl, rfl⟩)))
      go_ret
      rw [HE.out]
      exact listPostC_grow (Grow.lit0 _ _ _ _ (Nat.le_refl _)) (HA.out _)
    · have H2 := Lib.hid (HW.out true h2)
      by_cases h3 : 0 < xs.length
      · have z3 : ((xs.length : Int) == 0) = false := by rw [beq_eq_false_iff_ne]; omega
        by_cases h4 : 0 < ys.length
        · have z4 : ((ys.length : Int) == 0) = false := by rw [beq_eq_false_iff_ne]; omega
          have HE := Lib.hid (fltOr_yes h1 h2 h3 h4)
          have HOX := Lib.hid h1
          have HOY := Lib.hid h2
          have hlx := seqOk_len h1
          have hly := seqOk_len h2
          obtain ⟨N, hN⟩ : ∃ N, N = xs.length + ys.length - 1 := ⟨_, rfl⟩
          have HN := Lib.hid hN
          have hN2 : N ≤ 127 := by omega
          have HL := Lib.hid (And.intro hlx hly)
          have HP := Lib.hid (And.intro h3 h4)
          have hmk := run_make_row' (P := Try.prog) 23 3 (.int .i64 0) 8 Try.underlying23 Try.infoInt rfl .i64 .i64 N (by omega) (by omega)
          have r1 : IntKind.i64.wrap ((xs.length : Int) + (ys.length : Int)) = (N : Int) + 1 := by rw [wrapS (by omega)]; omega
          have r2 : IntKind.i64.wrap ((N : Int) + 1 - 1) = (N : Int) := by rw [wrapS (by omega)]; omega
          have r1' : wrap64 ((xs.length : Int) + (ys.length : Int)) = (N : Int) + 1 := by rw [wrapS' (by omega)]; omega
          have r2' : wrap64 ((N : Int) + 1 - 1) = (N : Int) := by rw [wrapS' (by omega)]; omega
          clear HV HW h1 h2 h3 h4 hN hlx hly
          go_enter Try.func19, Try.ntmps19
          go_wp2_with (first | (go_at_call 14; ((with_reducible refine H1.out.mono ?_); rintro e w' ⟨rfl, rfl⟩)) | (go_at_call 14; ((with_reducible refine H2.out.mono ?_); rintro e w' ⟨rfl, rfl⟩)))
          clear r1 r2 r1' r2' hmk z3 z4
          go_loopw [6] (fun i wr => ∃ k : Nat, k ≤ xs.length ∧ i = .int .i64 k ∧ wr.rowIs w.heap.size 3 N (fun m => .int .i64 (cvX xs ys k 0 m)) ∧ Below w.heap.size w wr) (fun i _ => xs.length - (intOf i).toNat)
          case atStart =>
            refine ⟨0, Nat.zero_le _, rfl, ?_, HA.out _⟩
            exact (World.rowIs_made w (.int .i64 0) N 3).congr (by intro j hj; simp [cvX_start])
          case round =>
            obtain ⟨k, hk, rfl, hrow, hbel⟩ := hrel
            have HR := Lib.hid hrow
            have HB := Lib.hid hbel
            have hk64 : k ≤ 64 := Nat.le_trans hk HL.out.1
            by_cases hlt : k < xs.length
            · clear hrow hbel
              go_wp2
              rename World => W0
              go_loopw [7] (fun i wr => ∃ q : Nat, q ≤ ys.length ∧ i = .int .i64 q ∧ wr.rowIs w.heap.size 3 N (fun m => .int .i64 (cvX xs ys k q m)) ∧ Below w.heap.size w wr) (fun i _ => ys.length - (intOf i).toNat)
              case atStart => exact ⟨0, Nat.zero_le _, rfl, HR.out, HB.out⟩
              case round =>
                obtain ⟨q, hq, rfl, hrow2, hbel2⟩ := hrel
                have HB2 := Lib.hid hbel2
                have hq64 : q ≤ 64 := Nat.le_trans hq HL.out.2
                by_cases hlq : q < ys.length
                · obtain ⟨b, off, rfl, hb, hc⟩ := (HX.out.below hbel2).at_ hlt
                  obtain ⟨b', off', rfl, hb', hc'⟩ := (HY.out.below hbel2).at_ hlq
                  obtain ⟨p, s, u, v, z, hp, hs, hu, hz, hv, ku, kv⟩ := cv_nums (j := q) HOX.out HOY.out hlt
                  have hpos : k + q < N := by have := HN.out; omega
                  have H2 := Lib.hid (row_cvX hrow2 (v := v) (by rw [hv, hz, hu, hp, hs]))
                  have hf := hrow2.frozen (k + q)
                  have hcv := hrow2.cell hpos
                  have hB := Lib.hid (hbel2.setCell (p := ⟨w.heap.size, k + q, none⟩) (Nat.le_refl _) (.int .i64 v))
                  rw [← hz] at hcv
                  rw [← hs] at hc'
                  rw [← hp] at hc
                  have r1 : IntKind.i64.wrap (p * s) = u := by rw [← hu]; exact wrapS ku
                  have r1' : wrap64 (p * s) = u := by rw [← hu]; exact wrapS' ku
                  have r2 : IntKind.i64.wrap (z + u) = v := by rw [← hv]; exact wrapS kv
                  have r2' : wrap64 (z + u) = v := by rw [← hv]; exact wrapS' kv
                  obtain ⟨g, hg⟩ : ∃ g, g = k + q := ⟨_, rfl⟩
                  rw [← hg] at hcv hf hpos H2 hB
                  have r3 : IntKind.i64.wrap ((k : Int) + (q : Int)) = (g : Int) := by rw [wrapS (by omega)]; omega
                  have r3' : wrap64 ((k : Int) + (q : Int)) = (g : Int) := by rw [wrapS' (by omega)]; omega
                  clear hrow2 hbel2 hb hb' hp hs hu hz hv ku kv hg
                  go_wp2
                  (refine wp_region_still_tail 21 (by kernel_rfl) (by kernel_rfl) ?_
                   simp only [List.take_succ_cons, List.take_zero, List.drop_succ_cons, List.drop_zero]
                   repeat still_step)
                  refine wpStill_nil ?_
                  change wpList _ _ _ _ _ wr.drew
                  have hf2 : wr.drew.frozen? ⟨w.heap.size, g, none⟩ = false := hf
                  have hcv2 : wr.drew.cell? ⟨w.heap.size, g, none⟩ = some (.int .i64 z) := hcv
                  clear hf hcv hc hc' r1 r1' r2 r2' r3 r3'
                  have HD := Lib.hid (show ∀ v, (wr.drew).setCell ⟨w.heap.size, g, none⟩ v = (wr.setCell ⟨w.heap.size, g, none⟩ v).drew from fun _ => rfl)
                  go_wp2
                  go_roundw
                  case rel => exact ⟨q + 1, by omega, by go_num, H2.out, hB.out.drew⟩
                  case measure => simp [intOf]; omega
                · obtain rfl : ys.length = q := by omega
                  have HR2 := Lib.hid (hrow2.congr (g := fun m => .int .i64 (cvX xs ys (k + 1) 0 m)) (by intro m _; simp [cvX_row]))
                  clear hrow2 hbel2
                  go_wp2
                  go_roundw
                  case rel => exact ⟨k + 1, by omega, by go_num, HR2.out, HB2.out⟩
                  case measure => simp [intOf]; omega
            · obtain rfl : xs.length = k := by omega
              have HR2 := Lib.hid (hrow.congr (g := fun m => .int .i64 (el (cvL xs ys) m)) (by intro m _; simp [cvX_done HP.out.1]))
              have HLn := Lib.hid (show N = (cvL xs ys).length by rw [cvL_length, HN.out])
              clear hrow hbel
              go_wp2
              go_ret
              rw [HE.out]
              exact listPostC_row HR2.out HLn.out (by unfold maxLen; omega) (Nat.le_refl _) HB.out
        · have z4 : ((ys.length : Int) == 0) = true := by rw [beq_iff_eq]; omega
          have HE := Lib.hid (fltOr_no (xs := xs) (ys := ys) (by omega))
          clear HV HW h1 h2 h3 h4
          go_enter Try.func19, Try.ntmps19
          go_wp2_with (first | (go_at_call 14; ((with_reducible refine H1.out.mono ?_); rintro e w' ⟨rfl, rfl⟩)) | (go_at_call 14; ((with_reducible refine H2.out.mono ?_); rintro e w' ⟨rfl, rfl⟩)))
          go_ret
          rw [HE.out]
          exact listPostC_grow (Grow.lit0 _ _ _ _ (Nat.le_refl _)) (HA.out _)
      · have z3 : ((xs.length : Int) == 0) = true := by rw [beq_iff_eq]; omega
        have HE := Lib.hid (fltOr_no (xs := xs) (ys := ys) (by omega))
        clear HV HW h1 h2 h3
        go_enter Try.func19, Try.ntmps19
        go_wp2_with (first | (go_at_call 14; ((with_reducible refine H1.out.mono ?_); rintro e w' ⟨rfl, rfl⟩)) | (go_at_call 14; ((with_reducible refine H2.out.mono ?_); rintro e w' ⟨rfl, rfl⟩)))
        go_ret
        rw [HE.out]
        exact listPostC_grow (Grow.lit0 _ _ _ _ (Nat.le_refl _)) (HA.out _)
end Go.Proofs.Ytdnnpnaaohfgaaa
