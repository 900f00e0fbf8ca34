/-
  The law of valid slots, walked: it returns true for every list of bytes. Condition: bytes that can be read.
-/
import Derived.Test.YtibgpgifdjefnaaSkLaw1
import Derived.Test.YtibgpgifdjefnaaSkRows
namespace Go.Proofs.Ytibgpgifdjefnaa
open Go.RowKit

/-- Slots 0 and 1 exchanged. -/
def sw01 (x : Int) : Int := if x = 0 ∨ x = 1 then 1 - x else x
theorem sw01_inj {x y : Int} (h : sw01 x = sw01 y) : x = y := by unfold sw01 at h; split at h <;> split at h <;> omega
theorem sw01_in {x : Int} : (0 ≤ sw01 x ∧ sw01 x ≤ 9) ↔ (0 ≤ x ∧ x ≤ 9) := by unfold sw01; split <;> omega
def swL (S : List Int) (k : Nat) : List Int := (List.range k).map fun i => sw01 (el S i)
theorem swL_len (S : List Int) (k : Nat) : (swL S k).length = k := by simp [swL]
theorem swL_el {S : List Int} {k i : Nat} (h : i < k) : el (swL S k) i = sw01 (el S i) := by simp [el, swL, h]
theorem swL_next (S : List Int) (k : Nat) : swL S (k + 1) = swL S k ++ [sw01 (el S k)] := by unfold swL; rw [List.range_succ, List.map_append]; rfl
theorem sv_swap (R : List (List Bool)) (S : List Int) : svB R (swL S S.length) = svB R S := by
  have key : SvOk R (swL S S.length) ↔ SvOk R S := by
    unfold SvOk
    rw [swL_len]
    constructor
    · rintro ⟨h1, h2, h3⟩
      refine ⟨h1, h2, fun i hi => ?_⟩
      have := h3 i hi
      rw [swL_el hi] at this
      refine ⟨sw01_in.1 this.1, fun j hj hg e => ?_⟩
      have h4 := this.2 j hj hg
      rw [swL_el hi, swL_el (by omega), e] at h4
      exact h4 rfl
    · rintro ⟨h1, h2, h3⟩
      refine ⟨h1, h2, fun i hi => ?_⟩
      have := h3 i hi
      rw [swL_el hi]
      refine ⟨sw01_in.2 this.1, fun j hj hg e => ?_⟩
      rw [swL_el hi, swL_el (by omega)] at e
      exact this.2 j hj hg (sw01_inj e)
  unfold svB
  rw [decide_eq_decide]; exact key
/-- A table without conflicts, and equal slots. -/
def noT (n : Nat) : List (List Bool) := (List.range n).map fun _ => List.replicate n false
theorem noT_len (n : Nat) : (noT n).length = n := by simp [noT]
theorem noT_row {n i : Nat} (h : i < n) : rwB (noT n) i = List.replicate n false := by simp [rwB, noT, h]
theorem noT_cf (n i j : Nat) : cf (noT n) i j = false := by
  unfold cf
  by_cases h : i < n
  · rw [noT_row h]
    by_cases h2 : j < n
    · simp [bt, h2]
    · simp [bt, h2]
  · simp [rwB, noT, h, bt]
theorem noT_sv {n : Nat} (h : n ≤ 10) : svB (noT n) (List.replicate n 0) = true := by
  refine svB_yes ⟨⟨by rw [noT_len]; exact h, fun i hi => ?_, fun i hi => ⟨noT_cf _ _ _, fun j _ => by rw [noT_cf, noT_cf]⟩⟩, by rw [List.length_replicate, noT_len], fun i hi => ?_⟩
  · rw [noT_len] at hi
    rw [noT_row hi, noT_len, List.length_replicate]
  · rw [List.length_replicate] at hi
    refine ⟨by simp [el, hi], fun j _ hg => ?_⟩
    rw [noT_cf] at hg; cases hg
theorem tbN_no {n : Nat} : tbN n n (fun _ _ => false) = noT n := by
  unfold tbN noT
  refine List.map_congr_left fun i _ => ?_
  apply List.ext_getElem
  · simp
  · intro j h1 h2; simp
/-- Rows of false values, each in a block of its own. -/
structure NoR (W : World) (A : Nat) (k n : Nat) (vs : List Value) (blk : Nat → Nat) : Prop where
  at_ : ∀ i, i < k → vs[i]? = some (.slice (some ⟨blk i, 0, none⟩) n n) ∧ A ≤ blk i ∧ W.rowIs (blk i) 4 n (fun _ => .bool false)
section
variable {W W' : World} {A k n : Nat} {vs : List Value} {blk : Nat → Nat}
set_option maxRecDepth 10000 in
theorem NoR.keep (h : NoR W A k n vs blk) (hk : ∀ (g : Nat) (c : Array Value), A ≤ g → W.heap[g]? = some (.cells c 4 (0, 0)) → W'.heap[g]? = W.heap[g]?) : NoR W' A k n vs blk :=
  ⟨fun i hi => by
    obtain ⟨h1, h3, h4⟩ := h.at_ i hi
    obtain ⟨c, hc, _⟩ := id h4
    exact ⟨h1, h3, h4.of_block (hk _ c h3 hc)⟩⟩
theorem NoR.next (h : NoR W A k n vs blk) (hb : Below W.heap.size W W') : NoR W' A k n vs blk := h.keep fun g _ _ hh => hb.block g (Array.getElem?_eq_some_iff.1 hh).1
set_option maxRecDepth 10000 in
theorem NoR.snoc {g : Nat} (h : NoR W A k n vs blk) (hl : vs.length = k) (hA : A ≤ g) (hf : W.rowIs g 4 n (fun _ => .bool false)) :
    NoR W A (k + 1) n (vs ++ [.slice (some ⟨g, 0, none⟩) n n]) (fun i => if i = k then g else blk i) := by
  refine ⟨fun i hi => ?_⟩
  by_cases e : i = k
  · subst e
    simp only [if_true]
    exact ⟨by rw [List.getElem?_append_right (by omega), hl]; simp, hA, hf⟩
  · simp only [e, if_false]
    obtain ⟨h1, h3, h4⟩ := h.at_ i (by omega)
    exact ⟨by rw [List.getElem?_append_left (by omega)]; exact h1, h3, h4⟩
theorem NoR.tbl {base cap : Nat} {a : Option Addr} (h : NoR W A n n vs blk) (hg : GVb W base a n cap vs) (hm : n ≤ 1048576) : TbL W W.heap.size a (noT n) := fun hne => by
  have hp : 0 < n := by rw [← noT_len n]; exact List.length_pos_iff.2 hne
  obtain ⟨g, cur, rfl, _, hh, hc⟩ := hg.at_ hp
  refine ⟨g, 0, rfl, (Array.getElem?_eq_some_iff.1 hh).1, fun i hi => ?_⟩
  rw [noT_len] at hi
  obtain ⟨h1, _, h4⟩ := h.at_ i hi
  rw [noT_row hi, List.length_replicate]
  refine ⟨_, n, by rw [Nat.zero_add]; exact hc i _ hi h1, Nat.le_refl _, by unfold maxLen; omega, fun _ => ⟨blk i, 0, rfl, h4.lt, fun j hj => ?_⟩⟩
  rw [List.length_replicate] at hj
  rw [Nat.zero_add, h4.cell hj]
  simp [bt, hj]
end
set_option maxRecDepth 100000 in
set_option maxHeartbeats 8000000 in
theorem walkSlotsValid (a : Option Addr) (c : Nat) (ds : List Int) (w : World) (hx : Ints .u8 w w.heap.size a ds) (hw : ∀ n ∈ ds, (Lit.int .u8 n).wf = true) (hc : ds.length ≤ c) (hcm : c ≤ maxLen) :
    Calls Try.prog 4 #[.slice a ds.length c] w fun e w' => e = .returned (.bool true) ∧ Below w.heap.size w w' := by
  have hb := isByte_of_wf hw
  clear hw
  by_cases hl : ds.length ≤ 1048576
  · have hl' : ¬ (1048576 : Int) < (ds.length : Int) := by omega
    go_enter Try.func4, Try.ntmps4
    go_wp2_with fail
    refine (drawSlotsValid_any a c ds w hx hb hc hcm).mono ?_
    rintro e w1 ⟨at_, ct, R, v, cv, S, rfl, h9, hS9, ht, hi, b1⟩
    have H9 := Lib.hid h9
    have T1 := Lib.hid ht
    have I1 := Lib.hid hi
    have B1 := Lib.hid b1
    have HS9 := Lib.hid hS9
    clear hx hb hc hcm h9 ht b1 hl hl' hi hS9
    obtain ⟨r, hr⟩ : ∃ r, svB R S = r := ⟨_, rfl⟩
    have HR := Lib.hid hr
    clear hr
    go_wp2_with fail
    refine (slotsValid_is at_ v ct cv R S r w1 T1.out I1.out HR.out).mono ?_
    rintro e w2 ⟨rfl, b2⟩
    have T2 := Lib.hid (T1.out.next b2)
    have I2 := Lib.hid (I1.out.upN b2)
    have B2 := Lib.hid (Below.next B1.out (Nat.le_refl _) b2)
    clear b2 T1 B1 I1
    go_wp2_with fail
    refine (specSlotsValid_is at_ v ct cv w2.heap.size w2.heap.size R S r w2 T2.out (rowCap H9.out.1) I2.out HR.out).mono ?_
    rintro e w3 ⟨rfl, n3, hw3⟩
    have T3 := Lib.hid (show TbL w3 w3.heap.size at_ R by rw [hw3]; exact T2.out.next (below_drewN (Below.refl _ _) n3))
    have I3 := Lib.hid (show Ints .i64 w3 w3.heap.size v S by rw [hw3]; exact I2.out.upN (below_drewN (Below.refl _ _) n3))
    have B3 := Lib.hid (show Below w.heap.size w w3 by rw [hw3]; exact below_drewN B2.out n3)
    clear T2 B2 I2 hw3
    have zr : (!(r == r)) = false := by simp
    obtain ⟨q, hq⟩ : ∃ q, tbB R = q := ⟨_, rfl⟩
    have HQ := Lib.hid hq
    clear hq
    go_wp2_with fail
    clear zr
    refine (conflictsValid_is at_ ct R q w3 T3.out HQ.out).mono ?_
    rintro e w4 ⟨rfl, b4⟩
    have T4 := Lib.hid (T3.out.next b4)
    have I4 := Lib.hid (I3.out.upN b4)
    have B4 := Lib.hid (Below.next B3.out (Nat.le_refl _) b4)
    clear b4 T3 B3 I3
    cases q
    · have hr0 : r = false := by rw [← HR.out]; exact svB_no fun h => by rw [tbB_yes h.1] at HQ; cases HQ.out
      subst hr0
      go_wp2_with fail
      refine (alive_any _).mono ?_
      rintro e w5 ⟨rfl, b5⟩
      have B5 := Lib.hid (Below.next B4.out (Nat.le_refl _) b5)
      clear b5
      go_wp2
      go_ret
      exact ⟨rfl, B5.out⟩
    · by_cases hlen : S.length = R.length
      · have HLen := Lib.hid hlen
        have zl : ((S.length : Int) != (R.length : Int)) = false := by simp [hlen]
        have h10 : R.length ≤ 9 := H9.out.1
        have hS9 := HS9.out
        have G0 := Lib.hid (Grow.lit0 .i64 3 w4 w4.heap.size (Nat.le_refl _))
        have A0 := Lib.hid (alloc_belowX w4 (.cells #[] 3))
        clear hlen
        go_wp2
        clear zl
        generalize w4.alloc (.cells #[] 3) = W0 at *
        go_loopw [6, 7] (fun o i wr => ∃ (k cap : Nat) (ad : Option Addr), k ≤ S.length ∧ i = .int .i64 (k : Int) ∧ o = .slice ad k cap ∧ Grow .i64 3 wr w4.heap.size ad k cap (swL S k) ∧ Below w4.heap.size w4 wr) (fun _ i _ => S.length - (intOf i).toNat)
        case atStart => exact ⟨0, 0, _, Nat.zero_le _, rfl, rfl, G0.out, A0.out⟩
        case round =>
          obtain ⟨k, cap, ad, hk, rfl, rfl, hg, hbb⟩ := hrel
          have HG := Lib.hid hg
          have HB := Lib.hid hbb
          have hsz := hbb.size
          clear hg hbb G0 A0
          by_cases hlt : k < S.length
          · obtain ⟨bs, offs, rfl, _, hcs⟩ := (I4.out.below HB.out).at_ hlt
            have HN := Lib.hid (swL_next S k)
            obtain ⟨x, hx⟩ : ∃ x, x = el S k := ⟨_, rfl⟩
            rw [← hx] at hcs HN
            by_cases hx01 : x = 0 ∨ x = 1
            · obtain ⟨y, hy⟩ : ∃ y, y = 1 - x := ⟨_, rfl⟩
              have hsw : sw01 x = y := by unfold sw01; rw [if_pos hx01, hy]
              rw [hsw] at HN
              have q1 : IntKind.i64.wrap (1 - x) = y := by rw [wrapW (by omega), hy]
              have q1' : wrap64 (1 - x) = y := by rw [wrapW' (by omega), hy]
              have zb : (x == 0) = decide (x = 0) := by rw [Bool.eq_iff_iff]; simp
              clear hx hy hsw
              by_cases hx0 : x = 0
              · have z0 : (x == 0) = true := by simp [hx0]
                clear hx01 hx0 zb
                go_wp2_with (at_builtin; refine wpList_append1 (.tmp 60) (.tmp 66) w4.heap.size ad k cap (swL S k) ⟨wr.heap.size, 0, none⟩ y rfl rfl rfl rfl (HG.out.alloc _) (by simp) (by omega) (by simp; omega) ?_; intro a2 cap2 w6 hg2 hb2; have HG2 := Lib.hid hg2; have HB2 := Lib.hid ((HB.out.alloc hsz (.cells #[.int .i64 y] 3)).trans hb2); clear hg2 hb2)
                go_roundw
                case rel => exact ⟨k + 1, cap2, a2, by omega, by go_num, rfl, by rw [HN.out]; exact HG2.out, HB2.out⟩
                case measure => simp [intOf]; omega
              · have z0 : (x == 0) = false := by simp [hx0]
                have z1 : (x == 1) = true := by simp; omega
                clear hx01 hx0 zb
                go_wp2_with (at_builtin; refine wpList_append1 (.tmp 60) (.tmp 66) w4.heap.size ad k cap (swL S k) ⟨wr.heap.size, 0, none⟩ y rfl rfl rfl rfl (HG.out.alloc _) (by simp) (by omega) (by simp; omega) ?_; intro a2 cap2 w6 hg2 hb2; have HG2 := Lib.hid hg2; have HB2 := Lib.hid ((HB.out.alloc hsz (.cells #[.int .i64 y] 3)).trans hb2); clear hg2 hb2)
                go_roundw
                case rel => exact ⟨k + 1, cap2, a2, by omega, by go_num, rfl, by rw [HN.out]; exact HG2.out, HB2.out⟩
                case measure => simp [intOf]; omega
            · have hsw : sw01 x = x := by unfold sw01; rw [if_neg hx01]
              rw [hsw] at HN
              have z0 : (x == 0) = false := by simp; omega
              have z1 : (x == 1) = false := by simp; omega
              clear hx hsw hx01
              go_wp2_with (at_builtin; refine wpList_append1 (.tmp 68) (.tmp 73) w4.heap.size ad k cap (swL S k) ⟨wr.heap.size, 0, none⟩ x rfl rfl rfl rfl (HG.out.alloc _) (by simp) (by omega) (by simp; omega) ?_; intro a2 cap2 w6 hg2 hb2; have HG2 := Lib.hid hg2; have HB2 := Lib.hid ((HB.out.alloc hsz (.cells #[.int .i64 x] 3)).trans hb2); clear hg2 hb2)
              go_roundw
              case rel => exact ⟨k + 1, cap2, a2, by omega, by go_num, rfl, by rw [HN.out]; exact HG2.out, HB2.out⟩
              case measure => simp [intOf]; omega
          · obtain rfl : S.length = k := by omega
            have GF := Lib.hid (GVb.lit0 wr wr.heap.size (Nat.le_refl _))
            have AF := Lib.hid (alloc_belowX wr (.cells #[] 27))
            have HX := Lib.hid HG.out.ints
            go_wp2
            obtain ⟨wo, rfl⟩ : ∃ wo, wo = wr := ⟨wr, rfl⟩
            generalize wo.alloc (.cells #[] 27) = W1 at *
            go_loopw [8, 9] (fun o i wr => ∃ (k cap : Nat) (ad : Option Addr) (vs : List Value) (blk : Nat → Nat), k ≤ R.length ∧ i = .int .i64 (k : Int) ∧ o = .slice ad k cap ∧ GVb wr wo.heap.size ad k cap vs ∧ NoR wr wo.heap.size k R.length vs blk ∧ Below wo.heap.size wo wr) (fun _ i _ => R.length - (intOf i).toNat)
            case atStart => exact ⟨0, 0, _, [], fun _ => 0, Nat.zero_le _, rfl, rfl, GF.out, ⟨fun i hi => absurd hi (by omega)⟩, AF.out⟩
            case round =>
              obtain ⟨k2, cap2, ad2, vs, blk, hk2, rfl, rfl, hgv, hnr, hbw⟩ := hrel
              have HGV := Lib.hid hgv
              have HNR := Lib.hid hnr
              have HBw := Lib.hid hbw
              have hsz2 := hbw.size
              clear hgv hnr hbw GF AF
              by_cases hlt2 : k2 < R.length
              · have hmk := makeB2 R.length (by omega)
                have A2 := Lib.hid (show Below wr.heap.size wr ((wr.alloc (.cells (madeCells #[.bool false] R.length) 4)).alloc (.cells #[.slice (some ⟨wr.heap.size, 0, none⟩) R.length R.length] 27)) from ((Below.refl _ _).alloc (Nat.le_refl _) _).alloc (by simp) _)
                have N2 : Hid (((wr.alloc (.cells (madeCells #[.bool false] R.length) 4)).alloc (.cells #[.slice (some ⟨wr.heap.size, 0, none⟩) R.length R.length] 27)).rowIs wr.heap.size 4 R.length (fun _ => .bool false)) :=
                  (World.rowIs_made wr (.bool false) R.length 4).of_block (Below.heap_alloc _ _ _ (by simp))
                go_wp2_with (at_builtin; refine wpList_appendVb (.tmp 82) (.tmp 86) wo.heap.size ad2 k2 cap2 vs ⟨wr.heap.size + 1, 0, none⟩ (some ⟨wr.heap.size, 0, none⟩) R.length R.length rfl rfl rfl (by simp [Act.eval]) (HGV.out.next A2.out) (by simp) (by omega) (by simp; omega) ?_
                             intro a3 cap3 w9 h1 h2
                             have HG3 := Lib.hid h1
                             have HNR2 := Lib.hid (HNR.out.next A2.out)
                             have HN3 := Lib.hid ((HNR2.out.keep (fun g c _ hh => (HGV.out.next A2.out).leaves h2 hh (by decide))).snoc HGV.out.len hsz2 (by obtain ⟨cc, hcc, _⟩ := id N2.out; exact N2.out.of_block ((HGV.out.next A2.out).leaves h2 hcc (by decide))))
                             have HB3 := Lib.hid ((HBw.out.trans (A2.out.mono hsz2)).trans ((HGV.out.next A2.out).keepsBelow h2 (Nat.le_trans hsz2 A2.out.size)))
                             clear h1 h2)
                go_roundw
                case rel => exact ⟨k2 + 1, cap3, a3, _, _, by omega, by go_num, rfl, HG3.out, HN3.out, HB3.out⟩
                case measure => simp [intOf]; omega
              · obtain rfl : R.length = k2 := by omega
                have hswo : w4.heap.size ≤ wo.heap.size := hsz
                have TW := Lib.hid (T4.out.below (HB.out.trans (HBw.out.mono hswo)) |>.more (Nat.le_trans hswo hsz2))
                have IW := Lib.hid ((HX.out.below HBw.out).more hsz2)
                have FW := Lib.hid (HNR.out.tbl HGV.out (by omega))
                have BW := Lib.hid (B4.out.trans ((HB.out.trans (HBw.out.mono hswo)).mono B4.out.size))
                have HV1 := Lib.hid (slotsValid_is at_ ad ct cap R (swL S S.length) r wr TW.out IW.out (by rw [sv_swap]; exact HR.out))
                rw [swL_len] at HV1
                have hmk := makeX R.length (by omega)
                have HV2 := Lib.hid (fun (w9 : World) (ht : TbL w9 w9.heap.size ad2 (noT R.length)) (b : Nat) (hi : Ints .i64 w9 w9.heap.size (some ⟨b, 0, none⟩) (List.replicate R.length 0)) => slotsValid_is ad2 (some ⟨b, 0, none⟩) cap2 R.length (noT R.length) (List.replicate R.length 0) true w9 ht hi (noT_sv (by omega)))
                rw [noT_len, List.length_replicate] at HV2
                have zr : (r == r) = true := by simp
                go_wp2_with (first
                  | (go_at_call 15; (with_reducible refine HV1.out.mono ?_); rintro e w7 ⟨rfl, b7⟩
                     have B7 := Lib.hid (BW.out.trans (b7.mono BW.out.size))
                     have F7 := Lib.hid ((FW.out.next b7).next (alloc_belowX w7 (.cells (madeCells #[.int .i64 0] R.length) 3)))
                     have X7 := Lib.hid (rowX_made w7 (fun _ => 0) R.length)
                     have I7 : Hid (Ints .i64 (w7.alloc (.cells (madeCells #[.int .i64 0] R.length) 3)) (w7.alloc (.cells (madeCells #[.int .i64 0] R.length) 3)).heap.size (some ⟨w7.heap.size, 0, none⟩) (List.replicate R.length 0)) := by
                       have := X7.out.ints
                       rw [mkX_start] at this
                       exact this
                     have HV3 := Lib.hid (HV2.out _ F7.out w7.heap.size I7.out)
                     clear b7)
                  | (go_at_call 15; (with_reducible refine HV3.out.mono ?_); rintro e w8 ⟨rfl, b8⟩
                     have B8 := Lib.hid ((B7.out.trans ((alloc_belowX w7 (.cells (madeCells #[.int .i64 0] R.length) 3)).mono B7.out.size)).trans (b8.mono (Nat.le_trans B7.out.size (by simp))))
                     clear b8))
                go_ret
                exact ⟨rfl, B8.out⟩
      · have hr0 : r = false := by rw [← HR.out]; exact svB_no fun h => hlen h.2.1
        subst hr0
        have zl : ((S.length : Int) != (R.length : Int)) = true := by simp; omega
        clear hlen
        go_wp2_with fail
        refine (alive_any _).mono ?_
        rintro e w5 ⟨rfl, b5⟩
        have B5 := Lib.hid (Below.next B4.out (Nat.le_refl _) b5)
        clear b5
        go_wp2
        go_ret
        exact ⟨rfl, B5.out⟩
  · have hl' : (1048576 : Int) < (ds.length : Int) := by omega
    go_enter Try.func4, Try.ntmps4
    go_wp2
    go_ret
    exact ⟨rfl, Below.refl _ _⟩
end Go.Proofs.Ytibgpgifdjefnaa
