/-
  What UndoFilter and its model answer, for every list and filter. Condition: the lists can be read; the model: the lengths can be.
-/
import Derived.Test.YtdnnpnaaohfgaabSeq4
namespace Go.Proofs.Ytdnnpnaaohfgaab
open Go.RowKit

/-- What UndoFilter leaves. -/
def UndP (xs fs : List Int) (w : World) (e : Ending) (w' : World) : Prop :=
  ∃ a cap, e = .returned (.tuple #[.slice a (undL xs fs).length cap, .bool (undB xs fs)]) ∧ ((undL xs fs).length ≤ cap ∧ cap ≤ maxLen) ∧ OwnInts .i64 3 w' w.heap.size a (undL xs fs) ∧ Below w.heap.size w w'
theorem undP_no {xs fs : List Int} {w w' : World} (h : undB xs fs = false ∧ undL xs fs = []) (hb : Below w.heap.size w w') : UndP xs fs w (.returned (.tuple #[.slice none 0 0, .bool false])) w' := by
  unfold UndP
  rw [h.1, h.2]
  exact ⟨none, 0, rfl, ⟨Nat.le_refl _, Nat.zero_le _⟩, fun h => absurd rfl h, hb⟩
theorem undP_of {xs fs ys : List Int} {w w' : World} {a : Option Addr} {n cap : Nat} {r : Bool} (h : undB xs fs = r ∧ undL xs fs = ys) (hp : ListPostC ys w (.returned (.slice a n cap)) w') : UndP xs fs w (.returned (.tuple #[.slice a n cap, .bool r])) w' := by
  obtain ⟨a', cap', e, h1, h2, h3⟩ := hp
  injection e with e
  injection e with e1 e2 e3
  subst e1 e2 e3
  unfold UndP
  rw [h.1, h.2]
  exact ⟨a, cap, rfl, h1, h2, h3⟩
/-- A row that is being filled: the first k numbers lie in it, the others are 0. -/
def undX (xs fs : List Int) (k j : Nat) : Int := el (und xs fs k) j
theorem row_und {w : World} {b : Nat} {t : TypeId} {n k : Nat} {xs fs : List Int} {v : Int} (hv : v = el (und xs fs (k + 1)) k) (h : w.rowIs b t n fun j => .int .i64 (undX xs fs k j)) :
    (w.setCell ⟨b, k, none⟩ (.int .i64 v)).rowIs b t n fun j => .int .i64 (undX xs fs (k + 1) j) :=
  (h.set k (.int .i64 v)).congr fun j _ => by
    unfold undX
    by_cases e : j = k
    · subst e; simp [hv]
    · simp only [e, if_false]
      by_cases h2 : j < k
      · rw [und_app xs fs h2 (Nat.le_succ k)]
      · rw [el_out (xs := und xs fs (k + 1)) (by rw [und_length]; omega), el_out (xs := und xs fs k) (by rw [und_length]; omega)]
/-- The numbers of one product. -/
theorem und_nums {xs fs : List Int} (h1 : seqOk xs = true) (h2 : seqOk fs = true) {k t : Nat} (h : seqTo (und xs fs k) k) (ht : t + 1 ≤ k) (hk : k ≤ 64) : ∃ p s u z v : Int, p = el fs (t + 1) ∧ s = el (und xs fs k) (k - (t + 1)) ∧ u = p * s ∧ z = undN xs fs k t ∧ v = z - u ∧ v = undN xs fs k (t + 1) ∧
    (-1000000000000 ≤ u ∧ u ≤ 1000000000000) ∧ (-1000000000000 ≤ v ∧ v ≤ 1000000000000) := by
  have a1 := prod_in (seqOk_in h2 (t + 1)) (seqIn_yes (h (k - (t + 1)) (by omega)))
  have a2 := undN_in (i := t + 1) h1 h2 h ht hk
  have e := undN_step xs fs k t
  exact ⟨_, _, _, _, _, rfl, rfl, rfl, rfl, rfl, e.symm, by omega, by omega⟩
set_option maxHeartbeats 2000000 in
theorem undone_any (a a' : Option Addr) (c c' : Nat) (xs fs : List Int) (w : World) (hx : Ints .i64 w w.heap.size a xs) (hy : Ints .i64 w w.heap.size a' fs)
    (hxo : seqOk xs = true) (hfo : seqOk fs = true) (hf0 : 0 < fs.length) (hf1 : el fs 0 = 1) :
    Calls Try.prog 46 #[.slice a xs.length c, .slice a' fs.length c'] w (UndP xs fs w) := by
  have hal := fun o : Obj => (Below.refl w.heap.size w).alloc (Nat.le_refl _) o
  have HA := Lib.hid hal
  have HX := Lib.hid hx
  have HY := Lib.hid hy
  have HOX := Lib.hid hxo
  have HOF := Lib.hid hfo
  have HF0 := Lib.hid hf0
  have hlx := seqOk_len hxo
  have hlf := seqOk_len hfo
  have HYES := Lib.hid (fun h => undB_yes hxo hfo hf0 hf1 h)
  have hmk := run_make_row' (P := Try.prog) 46 3 (.int .i64 0) 8 Try.underlying46 Try.infoInt rfl .i64 .i64 xs.length (by omega) (by omega)
  have HL := Lib.hid (And.intro hlx hlf)
  clear hx hy hxo hfo hal hlx hlf hf0 hf1
  go_enter Try.func46, Try.ntmps46
  go_wp2
  clear hmk
  go_loopw [15] (fun i wr => ∃ k : Nat, k ≤ xs.length ∧ i = .int .i64 k ∧ wr.rowIs w.heap.size 3 xs.length (fun j => .int .i64 (undX xs fs k j)) ∧ seqTo (und xs fs k) k ∧ Below w.heap.size w wr) (fun i _ => xs.length - (intOf i).toNat)
  case atStart =>
    refine ⟨0, Nat.zero_le _, rfl, ?_, fun i hi => absurd hi (by omega), HA.out _⟩
    exact (World.rowIs_made w (.int .i64 0) xs.length 3).congr (by intro j hj; simp [undX, und, el])
  case round =>
    obtain ⟨k, hk, rfl, hrow, hto, hbel⟩ := hrel
    have HR := Lib.hid hrow
    have HTo := Lib.hid hto
    have HB := Lib.hid hbel
    have hk64 : k ≤ 64 := Nat.le_trans hk HL.out.1
    by_cases hlt : k < xs.length
    · obtain ⟨b, off, rfl, hb, hc⟩ := (HX.out.below hbel).at_ hlt
      clear hrow hto hbel hb
      go_wp2
      rename World => W0
      have HZ := Lib.hid (undN_zero xs fs k)
      clear hc
      go_loopw [8, 9] (fun s i wr => ∃ t : Nat, t ≤ k ∧ t + 1 ≤ fs.length ∧ i = .int .i64 ((t + 1 : Nat) : Int) ∧ s = .int .i64 (undN xs fs k t) ∧ wr.rowIs w.heap.size 3 xs.length (fun j => .int .i64 (undX xs fs k j)) ∧ Below w.heap.size w wr) (fun _ i _ => fs.length - (intOf i).toNat)
      case atStart => exact ⟨0, Nat.zero_le _, HF0.out, rfl, by rw [HZ.out], HR.out, HB.out⟩
      case round =>
        obtain ⟨t, ht, htf, rfl, rfl, hrow2, hbel2⟩ := hrel
        have HB2 := Lib.hid hbel2
        have HR2 := Lib.hid hrow2
        obtain ⟨T, hT⟩ : ∃ T, T = t + 1 := ⟨_, rfl⟩
        have ht64 : T ≤ 65 := by omega
        rw [← hT]
        by_cases hc1 : T < fs.length
        · by_cases hc2 : T ≤ k
          · obtain ⟨b', off', rfl, hb', hc'⟩ := (HY.out.below hbel2).at_ hc1
            obtain ⟨p, s, u, z, v, hp, hs, hu, hz, hv, hv2, ku, kv⟩ := und_nums HOX.out HOF.out HTo.out (show t + 1 ≤ k by omega) hk64
            have hpos : k - T < xs.length := by omega
            have hcv := hrow2.cell hpos
            have hcs : undX xs fs k (k - T) = s := by rw [hs, hT]; rfl
            rw [hcs] at hcv
            rw [← hT] at hp
            rw [← hp] at hc'
            rw [← hz]
            have HV := Lib.hid hv2
            have HTT := Lib.hid hT
            obtain ⟨g, hg⟩ : ∃ g, g = k - T := ⟨_, rfl⟩
            rw [← hg] at hcv hpos
            have r1 : IntKind.i64.wrap (p * s) = u := by rw [← hu]; exact wrapS ku
            have r1' : wrap64 (p * s) = u := by rw [← hu]; exact wrapS' ku
            have r2 : IntKind.i64.wrap (z - u) = v := by rw [← hv]; exact wrapS kv
            have r2' : wrap64 (z - u) = v := by rw [← hv]; exact wrapS' kv
            have r3 : IntKind.i64.wrap ((k : Int) - (T : Int)) = (g : Int) := by rw [wrapS (by omega)]; omega
            have r3' : wrap64 ((k : Int) - (T : Int)) = (g : Int) := by rw [wrapS' (by omega)]; omega
            clear hrow2 hbel2 hb' hp hs hu hz hv hv2 ku kv hg hcs hT
            go_wp2
            go_quiet (fail)
            go_wp2
            go_roundw
            case rel => exact ⟨T, hc2, hc1, by go_num, by rw [HV.out, HTT.out], HR2.out, below_drewN HB2.out _⟩
            case measure => simp [intOf]; omega
          · have HN := Lib.hid (undN_full (xs := xs) (fs := fs) (k := k) (i := t) (.inl (by omega)) ht)
            obtain ⟨v, hv⟩ : ∃ v, v = undN xs fs k t := ⟨_, rfl⟩
            rw [← hv] at HN ⊢
            have HI := Lib.hid (fun W => valueValid_any v W)
            cases hin : seqIn v
            · rw [hin] at HI
              have HE := Lib.hid (undB_bad hlt (by rw [← HN.out]; exact hin))
              clear hrow2 hbel2 hT hv hin
              go_wp2_with (go_at_call 48; ((with_reducible refine (HI.out _).mono ?_); rintro e w1 ⟨rfl, rfl⟩))
              go_ret2
              exact undP_no HE.out HB2.out
            · rw [hin] at HI
              have H2 := Lib.hid (row_und HN.out hrow2)
              have HTN := Lib.hid (undTo_next HTo.out (by rw [← HN.out]; exact hin))
              have hf := hrow2.frozen k
              have hcv := hrow2.cell hlt
              have hB := Lib.hid (hbel2.setCell (p := ⟨w.heap.size, k, none⟩) (Nat.le_refl _) (.int .i64 v))
              clear hrow2 hbel2 hT hv hin
              go_wp2_with (go_at_call 48; ((with_reducible refine (HI.out _).mono ?_); rintro e w1 ⟨rfl, rfl⟩))
              go_roundw
              case rel => exact ⟨k + 1, by omega, by go_num, H2.out, HTN.out, hB.out⟩
              case measure => simp [intOf]; omega
        · have HN := Lib.hid (undN_full (xs := xs) (fs := fs) (k := k) (i := t) (.inr (by omega)) ht)
          obtain ⟨v, hv⟩ : ∃ v, v = undN xs fs k t := ⟨_, rfl⟩
          rw [← hv] at HN ⊢
          have HI := Lib.hid (fun W => valueValid_any v W)
          cases hin : seqIn v
          · rw [hin] at HI
            have HE := Lib.hid (undB_bad hlt (by rw [← HN.out]; exact hin))
            clear hrow2 hbel2 hT hv hin
            go_wp2_with (go_at_call 48; ((with_reducible refine (HI.out _).mono ?_); rintro e w1 ⟨rfl, rfl⟩))
            go_ret2
            exact undP_no HE.out HB2.out
          · rw [hin] at HI
            have H2 := Lib.hid (row_und HN.out hrow2)
            have HTN := Lib.hid (undTo_next HTo.out (by rw [← HN.out]; exact hin))
            have hf := hrow2.frozen k
            have hcv := hrow2.cell hlt
            have hB := Lib.hid (hbel2.setCell (p := ⟨w.heap.size, k, none⟩) (Nat.le_refl _) (.int .i64 v))
            clear hrow2 hbel2 hT hv hin
            go_wp2_with (go_at_call 48; ((with_reducible refine (HI.out _).mono ?_); rintro e w1 ⟨rfl, rfl⟩))
            go_roundw
            case rel => exact ⟨k + 1, by omega, by go_num, H2.out, HTN.out, hB.out⟩
            case measure => simp [intOf]; omega
    · obtain rfl : xs.length = k := by omega
      have HP := Lib.hid (undP_of (HYES.out hto) (listPostC_row (w := w) (xs := und xs fs xs.length) hrow (by rw [und_length]) (by unfold maxLen; omega) (Nat.le_refl _) hbel))
      clear hrow hto hbel
      go_wp2
      go_ret2
      exact HP.out
set_option maxHeartbeats 1000000 in
theorem undoFilter_any (a a' : Option Addr) (c c' : Nat) (xs fs : List Int) (w : World) (hx : Ints .i64 w w.heap.size a xs) (hy : Ints .i64 w w.heap.size a' fs) :
    Calls Try.prog 33 #[.slice a xs.length c, .slice a' fs.length c'] w (UndP xs fs w) := by
  have HV := Lib.hid (fun b h => seqValid_is a c w.heap.size xs w b hx h)
  have HW := Lib.hid (fun b h => seqValid_is a' c' w.heap.size fs w b hy h)
  cases h1 : seqOk xs
  · have H1 := Lib.hid (HV.out false h1)
    have HE := Lib.hid (undB_no (xs := xs) (fs := fs) (by simp [h1]))
    clear hx hy HV HW h1
    go_enter Try.func33, Try.ntmps33
    go_wp2_with (go_at_call 36; ((with_reducible refine H1.out.mono ?_); rintro e w' ⟨rfl, rfl⟩))
    go_ret2
    exact undP_no HE.out (Below.refl _ _)
  · have H1 := Lib.hid (HV.out true h1)
    cases h2 : seqOk fs
    · have H2 := Lib.hid (HW.out false h2)
      have HE := Lib.hid (undB_no (xs := xs) (fs := fs) (by simp [h2]))
      clear hx hy HV HW h1 h2
      go_enter Try.func33, Try.ntmps33
      go_wp2_with (first | (go_at_call 36; ((with_reducible refine H1.out.mono ?_); rintro e w' ⟨rfl, rfl⟩)) | (go_at_call 36; ((with_reducible refine H2.out.mono ?_); rintro e w' ⟨rfl, rfl⟩)))
      go_ret2
      exact undP_no HE.out (Below.refl _ _)
    · have H2 := Lib.hid (HW.out true h2)
      by_cases h3 : 0 < fs.length
      · have z3 : ((fs.length : Int) == 0) = false := by rw [beq_eq_false_iff_ne]; omega
        obtain ⟨b', off', rfl, hb', hc⟩ := hy.at_ h3
        rw [Nat.add_zero] at hc
        by_cases h4 : el fs 0 = 1
        · have HC := Lib.hid (undone_any a (some ⟨b', off', none⟩) c c' xs fs w hx hy h1 h2 h3 h4)
          rw [h4] at hc
          clear hx hy HV HW h1 h2 h4 hb'
          go_enter Try.func33, Try.ntmps33
          go_wp2_with (first | (go_at_call 36; ((with_reducible refine H1.out.mono ?_); rintro e w' ⟨rfl, rfl⟩)) | (go_at_call 36; ((with_reducible refine H2.out.mono ?_); rintro e w' ⟨rfl, rfl⟩)) | (go_at_call 46; refine HC.out.mono ?_; rintro e w1 ⟨v1, cv1, rfl, q1, o1, b1⟩; have HP : Hid (UndP xs fs w (.returned (.tuple #[.slice v1 (undL xs fs).length cv1, .bool (undB xs fs)])) w1) := ⟨v1, cv1, rfl, q1, o1, b1⟩; clear q1 o1 b1; generalize (undL xs fs).length = m at *; generalize undB xs fs = r at *))
          go_ret2
          exact HP.out
        · have HE := Lib.hid (undB_no (xs := xs) (fs := fs) (fun h => h4 h.2.2.2))
          obtain ⟨f, hf⟩ : ∃ f, f = el fs 0 := ⟨_, rfl⟩
          rw [← hf] at hc h4
          have z4 : (f != 1) = true := by simpa using h4
          clear hx hy HV HW h1 h2 h4 hb' hf
          go_enter Try.func33, Try.ntmps33
          go_wp2_with (first | (go_at_call 36; ((with_reducible refine H1.out.mono ?_); rintro e w' ⟨rfl, rfl⟩)) | (go_at_call 36; ((with_reducible refine H2.out.mono ?_); rintro e w' ⟨rfl, rfl⟩)))
          go_ret2
          exact undP_no HE.out (Below.refl _ _)
      · have z3 : ((fs.length : Int) == 0) = true := by rw [beq_iff_eq]; omega
        have HE := Lib.hid (undB_no (xs := xs) (fs := fs) (fun h => h3 h.2.2.1))
        clear hx hy HV HW h1 h2 h3
        go_enter Try.func33, Try.ntmps33
        go_wp2_with (first | (go_at_call 36; ((with_reducible refine H1.out.mono ?_); rintro e w' ⟨rfl, rfl⟩)) | (go_at_call 36; ((with_reducible refine H2.out.mono ?_); rintro e w' ⟨rfl, rfl⟩)))
        go_ret2
        exact undP_no HE.out (Below.refl _ _)
set_option maxHeartbeats 2000000 in
theorem specUndoFilter_any (a a' : Option Addr) (c c' : Nat) (xs fs : List Int) (w : World) (hx : Ints .i64 w w.heap.size a xs) (hy : Ints .i64 w w.heap.size a' fs) (hlx0 : xs.length ≤ maxLen) (hly0 : fs.length ≤ maxLen) :
    Calls Try.prog 32 #[.slice a xs.length c, .slice a' fs.length c'] w (UndP xs fs w) := by
  have hal := fun o : Obj => (Below.refl w.heap.size w).alloc (Nat.le_refl _) o
  have HA := Lib.hid hal
  have HV := Lib.hid (fun (o : Obj) b h => specSeqValid_is a c w.heap.size xs (w.alloc o) b (hx.below (hal o)) hlx0 h)
  have HW := Lib.hid (fun (o : Obj) b h => specSeqValid_is a' c' w.heap.size fs (w.alloc o) b (hy.below (hal o)) hly0 h)
  have HX := Lib.hid hx
  have HY := Lib.hid hy
  clear hx hy hal hlx0 hly0
  cases h1 : seqOk xs
  · have H1 := Lib.hid (fun o => HV.out o false h1)
    have HE := Lib.hid (undB_no (xs := xs) (fs := fs) (by simp [h1]))
    clear HV HW h1
    go_enter Try.func32, Try.ntmps32
    go_wp2_with (go_at_call 22; ((with_reducible refine (H1.out _).mono ?_); rintro e w' ⟨rfl, rfl⟩))
    go_ret2
    exact undP_of HE.out (listPostC_grow (Grow.lit0 _ _ _ _ (Nat.le_refl _)) (HA.out _))
  · have H1 := Lib.hid (fun o => HV.out o true h1)
    cases h2 : seqOk fs
    · have H2 := Lib.hid (fun o => HW.out o false h2)
      have HE := Lib.hid (undB_no (xs := xs) (fs := fs) (by simp [h2]))
      clear HV HW h1 h2
      go_enter Try.func32, Try.ntmps32
      go_wp2_with (first | (go_at_call 22; ((with_reducible refine (H1.out _).mono ?_); rintro e w' ⟨rfl, rfl⟩)) | (go_at_call 22; ((with_reducible refine (H2.out _).mono ?_); rintro e w' ⟨rfl, rfl⟩)))
      go_ret2
      exact undP_of HE.out (listPostC_grow (Grow.lit0 _ _ _ _ (Nat.le_refl _)) (HA.out _))
    · have H2 := Lib.hid (fun o => HW.out o true h2)
      by_cases h3 : 0 < fs.length
      · have z3 : ((fs.length : Int) == 0) = false := by rw [beq_eq_false_iff_ne]; omega
        have hcw := fun o : Obj => (HY.out.below (HA.out o)).at_ h3
        obtain ⟨b0, off0, ea, _, _⟩ := HY.out.at_ h3
        subst ea
        have hc : ∀ o : Obj, (w.alloc o).cell? ⟨b0, off0, none⟩ = some (.int .i64 (el fs 0)) := fun o => by
          obtain ⟨b1, off1, e1, _, h⟩ := hcw o
          injection e1 with e1
          injection e1 with e1 e2
          subst e1 e2
          exact h
        clear hcw
        by_cases h4 : el fs 0 = 1
        · have HOX := Lib.hid h1
          have HOF := Lib.hid h2
          have HF0 := Lib.hid h3
          have hlx := seqOk_len h1
          have hlf := seqOk_len h2
          have HYES := Lib.hid (fun h => undB_yes h1 h2 h3 h4 h)
          have HL := Lib.hid (And.intro hlx hlf)
          rw [h4] at hc
          clear HV HW h1 h2 h4 hlx hlf
          go_enter Try.func32, Try.ntmps32
          go_wp2_with (first | (go_at_call 22; ((with_reducible refine (H1.out _).mono ?_); rintro e w' ⟨rfl, rfl⟩)) | (go_at_call 22; ((with_reducible refine (H2.out _).mono ?_); rintro e w' ⟨rfl, rfl⟩)))
          clear H1 H2 z3 hc
          go_loopw [6, 7] (fun s i wr => ∃ (k : Nat) (v : Option Addr) (cap : Nat), k ≤ xs.length ∧ i = .int .i64 k ∧ s = .slice v k cap ∧ Grow .i64 3 wr w.heap.size v k cap (und xs fs k) ∧ seqTo (und xs fs k) k ∧ Below w.heap.size w wr) (fun _ i _ => xs.length - (intOf i).toNat)
          case atStart => exact ⟨0, _, _, Nat.zero_le _, rfl, rfl, Grow.lit0 _ _ _ _ (Nat.le_refl _), fun i hi => absurd hi (by omega), HA.out _⟩
          case round =>
            obtain ⟨k, v, cap, hk, rfl, rfl, hgr, hto, hbel⟩ := hrel
            have HG := Lib.hid hgr
            have HTo := Lib.hid hto
            have HB := Lib.hid hbel
            have hk64 : k ≤ 64 := Nat.le_trans hk HL.out.1
            by_cases hlt : k < xs.length
            · obtain ⟨b, off, rfl, hb, hc⟩ := (HX.out.below hbel).at_ hlt
              clear hgr hto hbel hb
              go_wp2
              rename World => W0
              have HZ := Lib.hid (undN_zero xs fs k)
              clear hc
              go_loopw [8, 9] (fun s i wr => ∃ t : Nat, t ≤ k ∧ t + 1 ≤ fs.length ∧ i = .int .i64 ((t + 1 : Nat) : Int) ∧ s = .int .i64 (undN xs fs k t) ∧ Grow .i64 3 wr w.heap.size v k cap (und xs fs k) ∧ Below w.heap.size w wr) (fun _ i _ => fs.length - (intOf i).toNat)
              case atStart => exact ⟨0, Nat.zero_le _, HF0.out, rfl, by rw [HZ.out], HG.out, HB.out⟩
              case round =>
                obtain ⟨t, ht, htf, rfl, rfl, hgr2, hbel2⟩ := hrel
                have HB2 := Lib.hid hbel2
                have HG2 := Lib.hid hgr2
                have hsz2 : w.heap.size ≤ wr.heap.size := hbel2.size
                obtain ⟨T, hT⟩ : ∃ T, T = t + 1 := ⟨_, rfl⟩
                have ht64 : T ≤ 65 := by omega
                rw [← hT]
                clear hgr2
                by_cases hc1 : T < fs.length
                · by_cases hc2 : T ≤ k
                  · obtain ⟨b', off', ea', hb', hc'⟩ := (HY.out.below hbel2).at_ hc1
                    injection ea' with ea'
                    injection ea' with ea1 ea2
                    subst ea1 ea2
                    obtain ⟨p, s, u, z, x, hp, hs, hu, hz, hv, hv2, ku, kv⟩ := und_nums HOX.out HOF.out HTo.out (show t + 1 ≤ k by omega) hk64
                    have hkT : k - T < (und xs fs k).length := by rw [und_length]; omega
                    obtain ⟨b2, off2, rfl, hb2, hcv⟩ := HG2.out.ints.at_ hkT
                    rw [hT, ← hs, ← hT] at hcv
                    rw [← hT] at hp
                    rw [← hp] at hc'
                    rw [← hz]
                    have HV := Lib.hid hv2
                    have HTT := Lib.hid hT
                    obtain ⟨g, hg⟩ : ∃ g, g = k - T := ⟨_, rfl⟩
                    rw [← hg] at hcv
                    have hgk : g < k := by omega
                    have r1 : IntKind.i64.wrap (p * s) = u := by rw [← hu]; exact wrapS ku
                    have r1' : wrap64 (p * s) = u := by rw [← hu]; exact wrapS' ku
                    have r2 : IntKind.i64.wrap (z - u) = x := by rw [← hv]; exact wrapS kv
                    have r2' : wrap64 (z - u) = x := by rw [← hv]; exact wrapS' kv
                    have r3 : IntKind.i64.wrap ((k : Int) - (T : Int)) = (g : Int) := by rw [wrapS (by omega)]; omega
                    have r3' : wrap64 ((k : Int) - (T : Int)) = (g : Int) := by rw [wrapS' (by omega)]; omega
                    clear hbel2 hb' hb2 hp hs hu hz hv hv2 ku kv hg hkT hT
                    go_wp2
                    go_quiet (fail)
                    go_wp2
                    go_roundw
                    case rel => exact ⟨T, hc2, hc1, by go_num, by rw [HV.out, HTT.out], HG2.out, below_drewN HB2.out _⟩
                    case measure => simp [intOf]; omega
                  · have HN := Lib.hid (undN_full (xs := xs) (fs := fs) (k := k) (i := t) (.inl (by omega)) ht)
                    obtain ⟨u, hu⟩ : ∃ u, u = undN xs fs k t := ⟨_, rfl⟩
                    rw [← hu] at HN ⊢
                    have HI := Lib.hid (fun W => l1In_any u (-1000) 1000 W)
                    cases hin : seqIn u
                    · rw [show (decide (-1000 ≤ u) && decide (u ≤ 1000)) = false from hin] at HI
                      have HE := Lib.hid (undB_bad hlt (by rw [← HN.out]; exact hin))
                      have HAl := Lib.hid (fun o => HB2.out.alloc hsz2 o)
                      clear hbel2 hT hu hin
                      go_wp2_with (go_at_call 42; ((with_reducible refine (HI.out _).mono ?_); rintro e w1 ⟨rfl, rfl⟩))
                      go_ret2
                      exact undP_of HE.out (listPostC_grow (Grow.lit0 _ _ _ _ hsz2) (HAl.out _))
                    · rw [show (decide (-1000 ≤ u) && decide (u ≤ 1000)) = true from hin] at HI
                      have HTN := Lib.hid (undTo_next HTo.out (by rw [← HN.out]; exact hin))
                      have HS := Lib.hid (show und xs fs (k + 1) = und xs fs k ++ [u] by rw [und_snoc, show undN xs fs k k = u by rw [HN.out]; exact undN_full (.inl (Nat.le_refl _)) (Nat.le_refl _)])
                      clear hbel2 hT hu hin
                      go_wp2_with (first | (go_at_call 42; ((with_reducible refine (HI.out _).mono ?_); rintro e w1 ⟨rfl, rfl⟩)) | (at_builtin; refine wpList_append1 (.tmp 69) (.tmp 71) w.heap.size v k cap (und xs fs k) ⟨wr.heap.size, 0, none⟩ u rfl rfl rfl rfl (HG2.out.alloc _) (by simp) (by omega) (by simp; omega) ?_; intro a3 cap3 w3 hg3 hb3; have HG3 := Lib.hid hg3; have HB3 := Lib.hid hb3; clear hg3 hb3))
                      go_roundw
                      case rel => exact ⟨k + 1, a3, cap3, by omega, by go_num, rfl, by rw [HS.out]; exact HG3.out, HTN.out, (HB2.out.alloc hsz2 _).trans HB3.out⟩
                      case measure => simp [intOf]; omega
                · have HN := Lib.hid (undN_full (xs := xs) (fs := fs) (k := k) (i := t) (.inr (by omega)) ht)
                  obtain ⟨u, hu⟩ : ∃ u, u = undN xs fs k t := ⟨_, rfl⟩
                  rw [← hu] at HN ⊢
                  have HI := Lib.hid (fun W => l1In_any u (-1000) 1000 W)
                  cases hin : seqIn u
                  · rw [show (decide (-1000 ≤ u) && decide (u ≤ 1000)) = false from hin] at HI
                    have HE := Lib.hid (undB_bad hlt (by rw [← HN.out]; exact hin))
                    have HAl := Lib.hid (fun o => HB2.out.alloc hsz2 o)
                    clear hbel2 hT hu hin
                    go_wp2_with (go_at_call 42; ((with_reducible refine (HI.out _).mono ?_); rintro e w1 ⟨rfl, rfl⟩))
                    go_ret2
                    exact undP_of HE.out (listPostC_grow (Grow.lit0 _ _ _ _ hsz2) (HAl.out _))
                  · rw [show (decide (-1000 ≤ u) && decide (u ≤ 1000)) = true from hin] at HI
                    have HTN := Lib.hid (undTo_next HTo.out (by rw [← HN.out]; exact hin))
                    have HS := Lib.hid (show und xs fs (k + 1) = und xs fs k ++ [u] by rw [und_snoc, show undN xs fs k k = u by rw [HN.out]; exact undN_full (.inl (Nat.le_refl _)) (Nat.le_refl _)])
                    clear hbel2 hT hu hin
                    go_wp2_with (first | (go_at_call 42; ((with_reducible refine (HI.out _).mono ?_); rintro e w1 ⟨rfl, rfl⟩)) | (at_builtin; refine wpList_append1 (.tmp 69) (.tmp 71) w.heap.size v k cap (und xs fs k) ⟨wr.heap.size, 0, none⟩ u rfl rfl rfl rfl (HG2.out.alloc _) (by simp) (by omega) (by simp; omega) ?_; intro a3 cap3 w3 hg3 hb3; have HG3 := Lib.hid hg3; have HB3 := Lib.hid hb3; clear hg3 hb3))
                    go_roundw
                    case rel => exact ⟨k + 1, a3, cap3, by omega, by go_num, rfl, by rw [HS.out]; exact HG3.out, HTN.out, (HB2.out.alloc hsz2 _).trans HB3.out⟩
                    case measure => simp [intOf]; omega
            · obtain rfl : xs.length = k := by omega
              have HP := Lib.hid (undP_of (HYES.out hto) (listPostC_grow (w := w) hgr hbel))
              clear hgr hto hbel
              go_wp2
              go_ret2
              exact HP.out
        · have HE := Lib.hid (undB_no (xs := xs) (fs := fs) (fun h => h4 h.2.2.2))
          obtain ⟨f, hf⟩ : ∃ f, f = el fs 0 := ⟨_, rfl⟩
          rw [← hf] at hc h4
          have z4 : (f != 1) = true := by simpa using h4
          clear HV HW h1 h2 h4 hf
          go_enter Try.func32, Try.ntmps32
          go_wp2_with (first | (go_at_call 22; ((with_reducible refine (H1.out _).mono ?_); rintro e w' ⟨rfl, rfl⟩)) | (go_at_call 22; ((with_reducible refine (H2.out _).mono ?_); rintro e w' ⟨rfl, rfl⟩)))
          go_ret2
          exact undP_of HE.out (listPostC_grow (Grow.lit0 _ _ _ _ (Nat.le_refl _)) (HA.out _))
      · have z3 : ((fs.length : Int) == 0) = true := by rw [beq_iff_eq]; omega
        have HE := Lib.hid (undB_no (xs := xs) (fs := fs) (fun h => h3 h.2.2.1))
        clear HV HW h1 h2 h3
        go_enter Try.func32, Try.ntmps32
        go_wp2_with (first | (go_at_call 22; ((with_reducible refine (H1.out _).mono ?_); rintro e w' ⟨rfl, rfl⟩)) | (go_at_call 22; ((with_reducible refine (H2.out _).mono ?_); rintro e w' ⟨rfl, rfl⟩)))
        go_ret2
        exact undP_of HE.out (listPostC_grow (Grow.lit0 _ _ _ _ (Nat.le_refl _)) (HA.out _))
end Go.Proofs.Ytdnnpnaaohfgaab
