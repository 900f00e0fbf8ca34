/-
  The models of RouteTo and CutLink. Condition: rows that can be read.
-/
import Derived.Test.YtnmhiagnmfpipaaRteC
import Derived.Test.YtnmhiagnmfpipaaRteB
import Derived.Test.YtnmhiagnmfpipaaRteTW
namespace Go.Proofs.Ytnmhiagnmfpipaa
open Go.RowKit

theorem nxI_next {R : List (List Int)} {i to k : Nat} {L : List Nat} (h : RtOk (tg R) (el (lcL R to)) R.length to i L) (hk : k + 1 < L.length) : nxI R (nl L k) to = (nl L (k + 1) : Int) := by
  unfold nxI
  rw [h.next k hk]
  rfl
theorem nxI_none {R : List (List Int)} {i to : Nat} (hi : i < R.length) (hto : to < R.length) (h : el (lcL R to) i < 0) : nxI R i to = -1 := by
  unfold nxI
  rw [((lcL_is R to).next_ex hto hi).2 (.inr h)]
  rfl
set_option maxRecDepth 10000 in
set_option maxHeartbeats 4000000 in
theorem specRouteTo_any (a : Option Addr) (c : Nat) (R : List (List Int)) (f t : Int) (w : World) (hr : RowsL w w.heap.size a R) (hn : R.length ≤ 1048576) :
    Calls Try.prog 28 #[.slice a R.length c, .int .i64 f, .int .i64 t] w (ListPostC (rtOr R f t) w) := by
  have r1 := wrapW (n := (R.length : Int) - 1) (by omega)
  have r1' := wrapW' (n := (R.length : Int) - 1) (by omega)
  have HB0 := Lib.hid (alloc_belowX w (.cells #[] 3))
  by_cases hok : TiOk R
  · have H1 := Lib.hid (specCostsValid_is a c w.heap.size R true w hr hn (decide_eq_true hok))
    by_cases ht : StOk R.length t
    · have H2 := Lib.hid (fun W => l1In_rt t 0 ((R.length : Int) - 1) true W (decide_eq_true ht))
      by_cases hf : StOk R.length f
      · have H3 := Lib.hid (fun W => l1In_rt f 0 ((R.length : Int) - 1) true W (decide_eq_true hf))
        obtain ⟨to, rfl, hto⟩ := stOk_nat ht
        obtain ⟨i, rfl, hi⟩ := stOk_nat hf
        have HR := Lib.hid hr
        have HNS := Lib.hid (fun (W : World) (k : Nat) (hk : k < R.length) (h : RowsL W W.heap.size a R) => by have h1 := specNextStation_any a c R (k : Int) (to : Int) W h hn; rw [nxOr_yes hok hk hto] at h1; exact h1)
        have HI := Lib.hid hi
        have HTO := Lib.hid hto
        have hn10 := hok.1
        have HB1 := Lib.hid (alloc_belowX w (.cells #[.int .i64 (i : Int)] 3))
        have HG1 := Lib.hid (grow_lit w (i : Int))
        by_cases h0 : 0 ≤ el (lcL R to) i
        · rw [rtOr_yes ⟨endsOk_of hok hi hto, h0⟩]
          have HOK := Lib.hid (rtL_ok hto hi h0)
          obtain ⟨L, hL⟩ : ∃ L, L = rtL R i to := ⟨_, rfl⟩
          rw [← hL] at HOK ⊢
          have hlen := HOK.out.len
          clear hi hto hf ht hok hr hL h0
          go_enter Try.func28, Try.ntmps28
          go_wp2_with (first | (go_at_call 17; ((with_reducible refine H1.out.mono ?_); rintro e w1 ⟨rfl, rfl⟩)) | (go_at_call 45; first | ((with_reducible refine (H2.out _).mono ?_); rintro e w1 ⟨rfl, rfl⟩) | ((with_reducible refine (H3.out _).mono ?_); rintro e w1 ⟨rfl, rfl⟩)))
          clear r1 r1'
          go_loopw [1, 7] (fun x s wr => ∃ k : Nat, k < L.length ∧ x = .int .i64 (nl L k : Int) ∧ (∃ a' cap', s = .slice a' (k + 1) cap' ∧ Grow .i64 3 wr w.heap.size a' (k + 1) cap' (rtI (L.take (k + 1)))) ∧ Below w.heap.size w wr) (fun _ s _ => L.length - slN s)
          case atStart =>
            have hp := HOK.out.pos
            exact ⟨0, hp, by rw [HOK.out.first], ⟨_, 1, rfl, by rw [rtI_take hp, HOK.out.first]; exact HG1.out⟩, HB1.out⟩
          case round =>
            obtain ⟨k, hk, rfl, ⟨a', cap', rfl, hg⟩, hb⟩ := hrel
            have HG := Lib.hid hg
            have HB := Lib.hid hb
            clear hg hb
            have hends := HOK.out.ends hk
            by_cases he : k + 1 = L.length
            · have e1 : nl L k = to := hends.2 he
              rw [e1]
              have z : ((to : Int) != (to : Int)) = false := by simp
              go_wp2
              go_ret
              have e2 : L.take (k + 1) = L := by rw [he, List.take_length]
              have hg := HG.out
              rw [e2] at hg
              exact listPostC_grow hg HB.out
            · have hk1 : k + 1 < L.length := by omega
              have hne2 : ((nl L k : Int) != (to : Int)) = true := by
                have : nl L k ≠ to := fun h => he (hends.1 h)
                simp; omega
              have hnx := nxI_next HOK.out hk1
              have HNX := Lib.hid (HNS.out wr (nl L k) (HOK.out.lt k hk) ((HR.out.below HB.out).more HB.out.size))
              rw [hnx] at HNX
              have hnn : ¬ ((nl L (k + 1) : Nat) : Int) < 0 := by omega
              have hk2 : k + 2 ≤ 10 := by omega
              have HK1 := Lib.hid hk1
              have HTK := Lib.hid (rtI_take hk1)
              have HWs := Lib.hid HB.out.size
              clear hends hnx he hk1
              go_wp2_with (first
                | (go_at_call 25; ((with_reducible refine HNX.out.mono ?_); rintro e w3 ⟨rfl, b3⟩; have HG3 := Lib.hid ((HG.out.below b3).alloc (.cells #[.int .i64 (nl L (k + 1) : Int)] 3)); have HB3 := Lib.hid ((Below.next HB.out (Nat.le_refl _) b3).alloc (Nat.le_trans HWs.out b3.size) (.cells #[.int .i64 (nl L (k + 1) : Int)] 3)); have HC3 := Lib.hid (cell_of_row _ _ 0 _ _ _ (heap_alloc_last w3 (.cells #[.int .i64 (nl L (k + 1) : Int)] 3))); have HS3 := Lib.hid (Nat.le_trans (Nat.le_trans HWs.out b3.size) (alloc_belowX w3 (.cells #[.int .i64 (nl L (k + 1) : Int)] 3)).size); clear b3))
                | (at_builtin; refine wpList_append1 (.tmp 40) (.tmp 42) w.heap.size a' (k + 1) cap' (rtI (L.take (k + 1))) ⟨w3.heap.size, 0, none⟩ (nl L (k + 1) : Int) rfl rfl rfl rfl HG3.out HC3.out (by omega) HS3.out ?_; intro a4 cap4 w4 hg4 hb4; have HG4 := Lib.hid hg4; have HB4 := Lib.hid (HB3.out.trans hb4); clear hg4 hb4))
              go_roundw
              case rel => exact ⟨k + 1, HK1.out, rfl, ⟨a4, cap4, rfl, by rw [HTK.out]; exact HG4.out⟩, HB4.out⟩
              case measure => have := HK1.out; simp [slN]; omega
        · rw [rtOr_no fun h1 => h0 h1.2]
          have hit : i ≠ to := fun e => by
            subst e
            have := (lcL_is R i).self hi
            omega
          have hne : ((i : Int) != (to : Int)) = true := by simp; omega
          have HNX := Lib.hid (fun W h => by have h1 := HNS.out W i HI.out h; rw [nxI_none hi hto (by omega)] at h1; exact h1)
          clear hi hto hf ht hok hr h0 hit
          go_enter Try.func28, Try.ntmps28
          go_wp2_with (first | (go_at_call 17; ((with_reducible refine H1.out.mono ?_); rintro e w1 ⟨rfl, rfl⟩)) | (go_at_call 45; first | ((with_reducible refine (H2.out _).mono ?_); rintro e w1 ⟨rfl, rfl⟩) | ((with_reducible refine (H3.out _).mono ?_); rintro e w1 ⟨rfl, rfl⟩)))
          clear r1 r1'
          generalize w.alloc (.cells #[.int .i64 (i : Int)] 3) = W1 at *
          go_loopw [1, 7] (fun x _ wr => x = .int .i64 (i : Int) ∧ wr = W1) (fun _ _ _ => 0)
          case atStart => exact ⟨rfl, rfl⟩
          case round =>
            obtain ⟨rfl, rfl⟩ := hrel
            have HNY := Lib.hid (HNX.out _ (HR.out.next HB1.out))
            have HBE := Lib.hid (fun (W : World) (h : Below wr.heap.size wr W) => Below.next (Below.next HB1.out (Nat.le_refl _) h) (Nat.le_refl _) (alloc_belowX W (.cells #[] 3)))
            go_wp2_with (go_at_call 25; ((with_reducible refine HNY.out.mono ?_); rintro e w3 ⟨rfl, b3⟩; have B3 := Lib.hid (HBE.out w3 b3); have S3 := Lib.hid (Nat.le_trans HB1.out.size b3.size); clear b3))
            go_ret
            exact listPostC_grow (Grow.lit0 _ _ _ _ S3.out) B3.out
      · have H3 := Lib.hid (fun W => l1In_rt f 0 ((R.length : Int) - 1) false W (decide_eq_false hf))
        rw [rtOr_no fun h => hf h.1.2.1]
        clear hf ht hok hr
        go_enter Try.func28, Try.ntmps28
        go_wp2_with (first | (go_at_call 17; ((with_reducible refine H1.out.mono ?_); rintro e w1 ⟨rfl, rfl⟩)) | (go_at_call 45; first | ((with_reducible refine (H2.out _).mono ?_); rintro e w1 ⟨rfl, rfl⟩) | ((with_reducible refine (H3.out _).mono ?_); rintro e w1 ⟨rfl, rfl⟩)))
        go_ret
        exact listPostC_grow (Grow.lit0 _ _ _ _ (Nat.le_refl _)) HB0.out
    · have H2 := Lib.hid (fun W => l1In_rt t 0 ((R.length : Int) - 1) false W (decide_eq_false ht))
      rw [rtOr_no fun h => ht h.1.2.2]
      clear ht hok hr
      go_enter Try.func28, Try.ntmps28
      go_wp2_with (first | (go_at_call 17; ((with_reducible refine H1.out.mono ?_); rintro e w1 ⟨rfl, rfl⟩)) | (go_at_call 45; ((with_reducible refine (H2.out _).mono ?_); rintro e w1 ⟨rfl, rfl⟩)))
      go_ret
      exact listPostC_grow (Grow.lit0 _ _ _ _ (Nat.le_refl _)) HB0.out
  · have H1 := Lib.hid (specCostsValid_is a c w.heap.size R false w hr hn (decide_eq_false hok))
    rw [rtOr_no fun h => hok h.1.1]
    clear hok hr
    go_enter Try.func28, Try.ntmps28
    go_wp2_with (go_at_call 17; ((with_reducible refine H1.out.mono ?_); rintro e w1 ⟨rfl, rfl⟩))
    go_ret
    exact listPostC_grow (Grow.lit0 _ _ _ _ (Nat.le_refl _)) HB0.out
/-- What the model of CutLink leaves: a table that can be read. -/
def TblR (X : List (List Int)) (w : World) (e : Ending) (w' : World) : Prop :=
  ∃ a cap, e = .returned (.slice a X.length cap) ∧ (X.length ≤ cap ∧ cap ≤ maxLen) ∧ TiF w' w.heap.size w'.heap.size a X ∧ Below w.heap.size w w'
theorem ctL_row {R : List (List Int)} {i to j : Nat} (hj : j < R.length) : rwI (ctL R i to) j = if j = i then (rwI R j).set to 0 else rwI R j := by
  unfold ctL
  rw [rwI_set R _ hj]
  by_cases e : j = i
  · subst e; rfl
  · rw [if_neg e, if_neg e]
theorem ctL_take {R : List (List Int)} {i to k : Nat} (hk : k < R.length) : (ctL R i to).take (k + 1) = (ctL R i to).take k ++ [if k = i then (rwI R k).set to 0 else rwI R k] := by
  rw [List.take_succ_eq_append_getElem (by rw [ctL_len]; exact hk), ← ctL_row (i := i) (to := to) hk]
  unfold rwI
  simp [ctL_len, hk]
set_option maxRecDepth 10000 in
set_option maxHeartbeats 4000000 in
theorem specCutLink_any (a : Option Addr) (c : Nat) (R : List (List Int)) (f t : Int) (w : World) (hr : RowsL w w.heap.size a R) (hn : R.length ≤ 1048576) :
    Calls Try.prog 31 #[.slice a R.length c, .int .i64 f, .int .i64 t] w (TblR (ctOr R f t) w) := by
  have r1 := wrapW (n := (R.length : Int) - 1) (by omega)
  have r1' := wrapW' (n := (R.length : Int) - 1) (by omega)
  have HB0 := Lib.hid (alloc_belowX w (.cells #[] 27))
  have HT0 := Lib.hid (TW.lit0 w w.heap.size (Nat.le_refl _))
  by_cases hok : TiOk R
  · have H1 := Lib.hid (fun W h => specCostsValid_is a c w.heap.size R true W h hn (decide_eq_true hok))
    by_cases ht : StOk R.length t
    · have H2 := Lib.hid (fun W => l1In_rt t 0 ((R.length : Int) - 1) true W (decide_eq_true ht))
      by_cases hf : StOk R.length f
      · have H3 := Lib.hid (fun W => l1In_rt f 0 ((R.length : Int) - 1) true W (decide_eq_true hf))
        obtain ⟨to, rfl, hto⟩ := stOk_nat ht
        obtain ⟨i, rfl, hi⟩ := stOk_nat hf
        rw [ctOr_yes hok hi hto]
        have HR := Lib.hid hr
        have HLN := Lib.hid (fun m (hm : m < R.length) => tiOk_row hok hm)
        have HI := Lib.hid hi
        have HTO := Lib.hid hto
        have hn10 := hok.1
        have htoI : (to : Int) < (R.length : Int) := by omega
        clear hi hto hf ht hok hr
        go_enter Try.func31, Try.ntmps31
        go_wp2_with (first | (go_at_call 17; ((with_reducible refine (H1.out _ (HR.out.below HB0.out)).mono ?_); rintro e w1 ⟨rfl, rfl⟩)) | (go_at_call 45; first | ((with_reducible refine (H2.out _).mono ?_); rintro e w1 ⟨rfl, rfl⟩) | ((with_reducible refine (H3.out _).mono ?_); rintro e w1 ⟨rfl, rfl⟩)))
        clear r1 r1'
        go_loopw [7, 8] (fun s x wr => ∃ (k : Nat) (a' : Option Addr) (cap : Nat) (blk : Nat → Nat) (vs : List Value), k ≤ R.length ∧ x = .int .i64 (k : Int) ∧ s = .slice a' k cap ∧ TW wr w.heap.size a' cap ((ctL R i to).take k) blk vs ∧ Below w.heap.size w wr) (fun _ x _ => R.length - (intOf x).toNat)
        case atStart => exact ⟨0, _, _, _, _, Nat.zero_le _, rfl, rfl, HT0.out, HB0.out⟩
        case round =>
          obtain ⟨k, a', cap, blk, vs, hk, rfl, rfl, htw, hb⟩ := hrel
          have HTW := Lib.hid htw
          have HB := Lib.hid hb
          clear htw hb HT0
          by_cases hlt : k < R.length
          · have HLT := Lib.hid hlt
            have hltI : (k : Int) < (R.length : Int) := by omega
            obtain ⟨b, off, ad, cpk, rfl, hrow, _, _, hin⟩ := (HR.out.below HB.out).at_ hlt
            have hlen := HLN.out k hlt
            rw [hlen] at hrow
            obtain ⟨g9, o9, rfl, _, _⟩ := hin.at_ (i := 0) (by rw [hlen]; omega)
            have HLE := Lib.hid hlen
            have IA := Lib.hid (fun o => (hin.more HB.out.size).below (alloc_belowX wr o))
            have BA := Lib.hid (fun o => alloc_belowX wr o)
            have HLK := Lib.hid (show ((ctL R i to).take k).length = k by rw [List.length_take, ctL_len]; omega)
            have HTK := Lib.hid (ctL_take (i := i) (to := to) hlt)
            have H0 := Lib.hid (show 0 < R.length by omega)
            have hk9 : k < 1048576 := by omega
            have hrow2 := cell_next hrow (alloc_belowX wr (.cells #[] 3))
            clear hin hlen hlt
            by_cases he : k = i
            · subst he
              have z : ((k : Int) == (k : Int)) = true := by simp
              rw [if_pos rfl] at HTK
              go_wp2_with (first
                | (at_builtin; refine wpList_appendA (.tmp 37) (.tmp 41) wr.heap.size (some ⟨wr.heap.size, 0, none⟩) (some ⟨g9, o9, none⟩) 0 0 R.length cpk wr.heap.size [] (rwI R k) rfl rfl rfl rfl (Grow.lit0 _ _ _ _ (Nat.le_refl _)) (IA.out _) HLE.out (by omega) (by simp) ?_; intro a4 cap4 w4 hg4 hb4 _; rw [Nat.zero_add, List.nil_append] at hg4; have HG4 := Lib.hid hg4; have HB4 := Lib.hid ((BA.out _).trans hb4); clear hg4 hb4; obtain ⟨bn, fn, rfl, hbn, _, _, _, _⟩ := HG4.out.row H0.out; have HBN := Lib.hid hbn; have T4 := Lib.hid (HTW.out.next HB4.out); have hci := HG4.out.rowF.cell HTO.out; have hfi := HG4.out.rowF.frozen to; clear hbn)
                | (at_builtin; have HG5 := Lib.hid ((HG4.out.put (k := to) 0).alloc (.cells #[.slice (some ⟨bn, 0, none⟩) R.length cap4] 27)); have HB5 := Lib.hid (HB4.out.trans (((Below.refl wr.heap.size w4).setCell (p := ⟨bn, to, none⟩) HBN.out (.int .i64 0)).alloc (by simp; exact HB4.out.size) (.cells #[.slice (some ⟨bn, 0, none⟩) R.length cap4] 27))); have T5 := Lib.hid (HTW.out.next HB5.out); have hc5 := cell_of_row _ _ 0 _ _ _ (heap_alloc_last (w4.setCell ⟨bn, to, none⟩ (.int .i64 0)) (.cells #[.slice (some ⟨bn, 0, none⟩) R.length cap4] 27)); rw [show (w4.setCell ⟨bn, to, none⟩ (.int .i64 0)).heap.size = w4.heap.size by simp] at hc5; have hgr := T5.out.gr; rw [HLK.out] at hgr; refine wpList_appendV (.tmp 49) (.tmp 51) w.heap.size a' k cap vs ⟨w4.heap.size, 0, none⟩ (some ⟨bn, 0, none⟩) R.length cap4 rfl rfl rfl rfl hgr hc5 hk9 (Nat.le_trans HB.out.size HB5.out.size) ?_; intro a7 cap7 w7 hg7 hgb7; have HG7 := Lib.hid hg7; have HGB7 := Lib.hid hgb7; clear hg7 hgb7 hc5 hgr))
              have hbn := HBN.out
              have hl7 := HLK.out
              have T7 := Lib.hid (T5.out.app (HG5.out.base_le HB.out.size) (fun x hx => Nat.lt_of_lt_of_le (HTW.out.lt x hx) hbn) (by obtain ⟨b8, f8, e8, _, hb8, _⟩ := HG5.out.row H0.out; injection e8 with e8; injection e8 with e8; subst e8; exact hb8) (by rw [hl7]; exact HG7.out) (by rw [hl7]; exact HGB7.out))
              rw [← HTK.out] at T7
              have hgr := T5.out.gr
              rw [hl7] at hgr
              have HB7 := Lib.hid ((Below.next HB.out (Nat.le_refl _) HB5.out).trans (hgr.keepsBelow HGB7.out (Nat.le_trans HB.out.size HB5.out.size)))
              clear hgr
              go_roundw
              case rel => exact ⟨k + 1, a7, cap7, _, _, by have := HLT.out; omega, by go_num, rfl, T7.out, HB7.out⟩
              case measure => have := HLT.out; simp [intOf]; omega
            · have z : ((k : Int) == (i : Int)) = false := by simp; omega
              rw [if_neg he] at HTK
              go_wp2_with (first
                | (at_builtin; refine wpList_appendA (.tmp 37) (.tmp 41) wr.heap.size (some ⟨wr.heap.size, 0, none⟩) (some ⟨g9, o9, none⟩) 0 0 R.length cpk wr.heap.size [] (rwI R k) rfl rfl rfl rfl (Grow.lit0 _ _ _ _ (Nat.le_refl _)) (IA.out _) HLE.out (by omega) (by simp) ?_; intro a4 cap4 w4 hg4 hb4 _; rw [Nat.zero_add, List.nil_append] at hg4; have HG4 := Lib.hid hg4; have HB4 := Lib.hid ((BA.out _).trans hb4); clear hg4 hb4; obtain ⟨bn, fn, rfl, hbn, _, _, _, _⟩ := HG4.out.row H0.out; have HBN := Lib.hid hbn; have T4 := Lib.hid (HTW.out.next HB4.out); have hci := HG4.out.rowF.cell HTO.out; have hfi := HG4.out.rowF.frozen to; clear hbn)
                | (at_builtin; have HG5 := Lib.hid (HG4.out.alloc (.cells #[.slice (some ⟨bn, 0, none⟩) R.length cap4] 27)); have HB5 := Lib.hid (HB4.out.trans ((Below.refl wr.heap.size w4).alloc HB4.out.size (.cells #[.slice (some ⟨bn, 0, none⟩) R.length cap4] 27))); have T5 := Lib.hid (HTW.out.next HB5.out); have hc5 := cell_of_row _ _ 0 _ _ _ (heap_alloc_last w4 (.cells #[.slice (some ⟨bn, 0, none⟩) R.length cap4] 27)); have hgr := T5.out.gr; rw [HLK.out] at hgr; refine wpList_appendV (.tmp 49) (.tmp 51) w.heap.size a' k cap vs ⟨w4.heap.size, 0, none⟩ (some ⟨bn, 0, none⟩) R.length cap4 rfl rfl rfl rfl hgr hc5 hk9 (Nat.le_trans HB.out.size HB5.out.size) ?_; intro a7 cap7 w7 hg7 hgb7; have HG7 := Lib.hid hg7; have HGB7 := Lib.hid hgb7; clear hg7 hgb7 hc5 hgr))
              have hbn := HBN.out
              have hl7 := HLK.out
              have T7 := Lib.hid (T5.out.app (HG5.out.base_le HB.out.size) (fun x hx => Nat.lt_of_lt_of_le (HTW.out.lt x hx) hbn) (by obtain ⟨b8, f8, e8, _, hb8, _⟩ := HG5.out.row H0.out; injection e8 with e8; injection e8 with e8; subst e8; exact hb8) (by rw [hl7]; exact HG7.out) (by rw [hl7]; exact HGB7.out))
              rw [← HTK.out] at T7
              have hgr := T5.out.gr
              rw [hl7] at hgr
              have HB7 := Lib.hid ((Below.next HB.out (Nat.le_refl _) HB5.out).trans (hgr.keepsBelow HGB7.out (Nat.le_trans HB.out.size HB5.out.size)))
              clear hgr
              go_roundw
              case rel => exact ⟨k + 1, a7, cap7, _, _, by have := HLT.out; omega, by go_num, rfl, T7.out, HB7.out⟩
              case measure => have := HLT.out; simp [intOf]; omega
          · obtain rfl : R.length = k := by omega
            go_wp2
            go_ret
            have h := HTW.out
            rw [List.take_of_length_le (Nat.le_of_eq (ctL_len R i to))] at h
            exact ⟨a', cap, by rw [ctL_len]; rfl, h.room, h.tif, HB.out⟩
      · have H3 := Lib.hid (fun W => l1In_rt f 0 ((R.length : Int) - 1) false W (decide_eq_false hf))
        rw [ctOr_no fun h => hf h.2.1]
        have HR := Lib.hid hr
        clear hf ht hok hr
        go_enter Try.func31, Try.ntmps31
        go_wp2_with (first | (go_at_call 17; ((with_reducible refine (H1.out _ (HR.out.below HB0.out)).mono ?_); rintro e w1 ⟨rfl, rfl⟩)) | (go_at_call 45; first | ((with_reducible refine (H2.out _).mono ?_); rintro e w1 ⟨rfl, rfl⟩) | ((with_reducible refine (H3.out _).mono ?_); rintro e w1 ⟨rfl, rfl⟩)))
        go_ret
        exact ⟨_, 0, rfl, HT0.out.room, HT0.out.tif, HB0.out⟩
    · have H2 := Lib.hid (fun W => l1In_rt t 0 ((R.length : Int) - 1) false W (decide_eq_false ht))
      rw [ctOr_no fun h => ht h.2.2]
      have HR := Lib.hid hr
      clear ht hok hr
      go_enter Try.func31, Try.ntmps31
      go_wp2_with (first | (go_at_call 17; ((with_reducible refine (H1.out _ (HR.out.below HB0.out)).mono ?_); rintro e w1 ⟨rfl, rfl⟩)) | (go_at_call 45; ((with_reducible refine (H2.out _).mono ?_); rintro e w1 ⟨rfl, rfl⟩)))
      go_ret
      exact ⟨_, 0, rfl, HT0.out.room, HT0.out.tif, HB0.out⟩
  · have H1 := Lib.hid (fun W h => specCostsValid_is a c w.heap.size R false W h hn (decide_eq_false hok))
    rw [ctOr_no fun h => hok h.1]
    have HR := Lib.hid hr
    clear hok hr
    go_enter Try.func31, Try.ntmps31
    go_wp2_with (go_at_call 17; ((with_reducible refine (H1.out _ (HR.out.below HB0.out)).mono ?_); rintro e w1 ⟨rfl, rfl⟩))
    go_ret
    exact ⟨_, 0, rfl, HT0.out.room, HT0.out.tif, HB0.out⟩
end Go.Proofs.Ytnmhiagnmfpipaa
