/-
  The best slots: what the search answers. Condition: a table that can be read.
-/
import Derived.Test.YtibgpgifdjefnaaDoorSk5
import Derived.Deep.Cut
namespace Go.Proofs.YtibgpgifdjefnaaDoor
open Go.RowKit

/-- What the search leaves. -/
def ExtP (w : World) (q : Nat) (cv : Value) (f : Nat → Nat) (L : List Nat) (st : Nat × List Nat) (e : Ending) (w' : World) : Prop :=
  e = .returned (.tuple #[]) ∧ ∃ ad cap ab cb, SS w w' q cv f ad cap L ab cb st
theorem topN_bound {L : List Nat} {u : Nat} (h : ∀ i, i < L.length → nl L i < u) : topN L L.length ≤ u := topN_le h
set_option maxRecDepth 10000 in
set_option maxHeartbeats 4000000 in
theorem extend_any (w : World) (q : Nat) (a1 : Option Addr) (c1 : Nat) (R : List (List Bool)) (hI : Ints .u16 w q a1 (setL R)) (h7 : R.length ≤ 7) : ∀ (r : Nat) (L : List Nat) (u : Nat) (st : Nat × List Nat) (ad : Option Addr) (cap : Nat) (ab : Option Addr) (cb : Nat) (W : World),
    SS w W q (.slice a1 R.length c1) (tkN L) ad cap L ab cb st → L.length + r = R.length → u ≤ L.length →
    Calls Tryd.prog 24 #[.pointer (some ⟨q, 0, none⟩), .int .i64 (u : Int)] W (ExtP w q (.slice a1 R.length c1) (tkN L) L (exS (cf R) r L u st)) := by
  intro r
  induction r with
  | zero =>
    intro L u st ad cap ab cb W hs hr hu
    have HS := Lib.hid hs
    have c13 := hs.row.n
    have c0 := hs.row.c
    have c11 := hs.row.s
    have HL := Lib.hid (show L.length = R.length by omega)
    by_cases hlt : u < st.1
    · have HE := Lib.hid (show exS (cf R) 0 L u st = (u, L) by rw [exS, if_pos hlt])
      have HC := Lib.hid (cloneS_any ad L.length cap (q + 1) (iL L) W hs.sl (by omega))
      have h1 : ¬ (st.1 : Int) ≤ (u : Int) := by omega
      clear hs
      go_enter Tryd.func24, Tryd.ntmps24
      go_wp2_with fail
      refine HC.out.mono ?_
      rintro e w2 ⟨ab', cb', rfl, g2, b2⟩
      have S2 := Lib.hid (HS.out.next b2)
      have HN := Lib.hid (HS.out.best (u := u) b2 g2)
      have d12 := S2.out.row.b
      have d13 := S2.out.row.n
      have f12 := S2.out.row.z 12
      have f13 := S2.out.row.z 13
      clear g2 b2 c13 c0 c11
      go_wp2
      go_end0
      exact ⟨rfl, _, _, _, _, by rw [HE.out]; exact HN.out⟩
    · have HE := Lib.hid (show exS (cf R) 0 L u st = st by rw [exS, if_neg hlt])
      have h1 : (st.1 : Int) ≤ (u : Int) := by omega
      clear hs
      go_enter Tryd.func24, Tryd.ntmps24
      go_wp2
      go_end0
      exact ⟨rfl, _, _, _, _, by rw [HE.out]; exact HS.out⟩
  | succ r ih =>
    intro L u st ad cap ab cb W hs hr hu
    have HS := Lib.hid hs
    have c13 := hs.row.n
    have c0 := hs.row.c
    have c11 := hs.row.s
    have hlR : L.length < R.length := by omega
    have hl7 : L.length ≤ 6 := by omega
    have IH := Lib.hid ih
    clear ih
    by_cases hlt : u < st.1
    · have HE := Lib.hid (show exS (cf R) (r + 1) L u st = lpF (exF (cf R) (exS (cf R) r) L u) (u + 1) st by rw [exS, if_pos hlt])
      have h1 : ¬ (st.1 : Int) ≤ (u : Int) := by omega
      have h2 : ((L.length : Int) == (R.length : Int)) = false := by rw [beq_eq_false_iff_ne]; omega
      clear hs
      go_enter Tryd.func24, Tryd.ntmps24
      go_wp2
      clear h1 h2 c13 c0 c11
      go_loopw [38] (fun i wr => ∃ (k : Nat) (ad : Option Addr) (cap : Nat) (ab : Option Addr) (cb : Nat), k ≤ u + 1 ∧ i = .int .i64 (k : Int) ∧ SS w wr q (.slice a1 R.length c1) (tkN L) ad cap L ab cb (lpF (exF (cf R) (exS (cf R) r) L u) k st)) (fun i _ => u + 1 - (intOf i).toNat)
      case atStart => exact ⟨0, _, _, _, _, Nat.zero_le _, rfl, HS.out⟩
      case round =>
        obtain ⟨k, ad, cap, ab, cb, hk, rfl, hs⟩ := hrel
        have HS := Lib.hid hs
        have HN := Lib.hid (show lpF (exF (cf R) (exS (cf R) r) L u) (k + 1) st = exF (cf R) (exS (cf R) r) L u k (lpF (exF (cf R) (exS (cf R) r) L u) k st) from rfl)
        generalize hg1 : lpF (exF (cf R) (exS (cf R) r) L u) k st = st1 at hs HS HN
        have HG1 := Lib.hid hg1
        clear hg1
        by_cases hlt : k < u + 1
        · have hk10 : k < 10 := by omega
          have hk10' : (k : Int) < 10 := by omega
          obtain ⟨b, off, rfl, hbb, hc⟩ := sets_at (hI.below hs.bl) hlR
          have hcs := csN_lt (R := R) (by omega) L.length
          have htc := tkN_lt (L := L) (c := k) (by omega)
          have hmt := meets_is (g := cf R) (L := L) (i := L.length) (c := k) (n := R.length) (by omega)
          have c0 := hs.row.c
          have ct := hs.row.t hk10
          have hlR' : (L.length : Int) < (R.length : Int) := by omega
          clear hs
          by_cases hf : cfFree (cf R) L L.length k L.length = true
          · have HM := Lib.hid (fun m => setMeets_q (tkN L k) (csN R L.length) false (wr.drewN m) (by omega) (by omega) (decide_eq_false fun h => h (hmt.2 hf)))
            rw [exF, if_pos hf] at HN
            obtain ⟨d, hd⟩ : ∃ d, d = tkN L k ||| 2 ^ L.length := ⟨_, rfl⟩
            have HW := Lib.hid (fun W => setWith_q (tkN L k) L.length d W (by omega) (by omega) hd.symm)
            have HT2 : Hid (∀ j, j < 10 → tkN (L ++ [k]) j = if j = k then d else tkN L j) := fun j _ => by
              rw [tkN_snoc, hd]
            have hd2 : d < 65536 := by rw [hd, ← tkN_app]; have := tkN_lt (L := L ++ [k]) (c := k) (by simp; omega); omega
            have HD := Lib.hid (fun W => setWithout_q d L.length (tkN L k) W hd2 (by omega) fun j => by
              rw [hd, ← tkN_app, tkN_bit, tkN_bit, List.length_append, List.length_singleton]
              by_cases e : j = L.length
              · subst e; simp
              · by_cases e2 : j < L.length
                · rw [nl_app e2]; simp [e, e2, Nat.lt_succ_of_lt e2]
                · simp [e, e2, show ¬ j < L.length + 1 by omega])
            have HT3 : Hid (∀ j, j < 10 → tkN L j = if j = k then tkN L k else tkN (L ++ [k]) j) := fun j _ => by
              by_cases e : j = k
              · subst e; simp
              · rw [if_neg e, tkN_other e]
            have HdK := Lib.hid (show tkN (L ++ [k]) k = d by rw [hd]; exact tkN_app L k)
            obtain ⟨u2, hu2⟩ : ∃ u2, u2 = max u (k + 1) := ⟨_, rfl⟩
            rw [← hu2] at HN
            have hmx : (if ((k : Int) + 1 > (u : Int)) then (k : Int) + 1 else (u : Int)) = (u2 : Int) := by split <;> omega
            have hu2L : u2 ≤ L.length + 1 := by omega
            have hlen : (L ++ [k]).length = L.length + 1 := by simp
            have HLen := Lib.hid hlen
            clear hmt hf hd hu2 hlen
            generalize csN R L.length = C at *
            generalize hU : tkN L k = U at HM HW HD ct htc HT3
            clear hU
            go_wp2
            go_quiet ((go_at_call 31; with_reducible exact Calls.quiet_of_same (HM.out _)))
            go_upto_region 8 with (fail)
            have SA := Lib.hid (HS.out.drewN nq)
            have ca : (wr.drewN nq).cell? ⟨q, 1 + k, none⟩ = some (.int .u16 (U : Int)) := ct
            clear HS hc c0 ct HM
            generalize wr.drewN nq = wa at *
            refine wp_region_still_tail 13 (by kernel_rfl) (by kernel_rfl) ?_
            simp only [List.take_succ_cons, List.take_zero, List.drop_succ_cons, List.drop_zero]
            repeat still_step
            still_call (HW.out _)
            repeat still_step
            refine wpStill_nil ?_
            change wpList _ _ _ _ _ wa.drew
            have cN : wa.drew.cell? ⟨q, 1 + k, none⟩ = some (.int .u16 (U : Int)) := ca
            have fN : wa.drew.frozen? ⟨q, 1 + k, none⟩ = false := SA.out.row.z (1 + k)
            have SB := Lib.hid (show SS w (wa.drew.setCell ⟨q, 1 + k, none⟩ (.int .u16 (d : Int))) q (.slice (some ⟨b, off, none⟩) R.length c1) (tkN (L ++ [k])) ad cap L ab cb st1 from (SA.out.drewN 1).setT hk10 d HT2.out)
            clear SA ca
            generalize wa.drew = wd at *
            go_upto_region 9 with (fail)
            clear cN fN
            generalize wd.setCell ⟨q, 1 + k, none⟩ (.int .u16 (d : Int)) = wb at *
            have b11 := SB.out.row.s
            have hsz := SB.out.size
            go_upto_region 12 with (first
              | (at_builtin; refine wpList_app1k (.tmp 72) (.tmp 74) (q + 1) ad L.length cap (iL L) ⟨wb.heap.size, 0, none⟩ (k : Int) rfl rfl rfl rfl (SB.out.sl.alloc _) (by simp) (by omega) (by simp; omega) ?_
                 intro a5 cap5 w5 h5
                 have SC := Lib.hid ((SB.out.next (alloc_belowX wb (.cells #[.int .i64 (k : Int)] 3))).app h5)
                 have R5 := Lib.hid ((SB.out.next (alloc_belowX wb (.cells #[.int .i64 (k : Int)] 3))).row.block (h5.2.1.block q (Nat.lt_succ_self q)))
                 have d11 := R5.out.s
                 have f11 := R5.out.z 11
                 have IHc := Lib.hid (IH.out (L ++ [k]) u2 st1 a5 cap5 ab cb _ SC.out (by rw [HLen.out]; omega) (by rw [HLen.out]; omega))
                 clear h5)
              | (go_at_call 24; (with_reducible refine IHc.out.mono ?_); rintro e w7 ⟨rfl, a7, cap7, ab7, cb7, s7⟩
                 have S7 := Lib.hid s7
                 have e11 := s7.row.s
                 rw [HLen.out] at e11
                 have g11 := s7.row.z 11
                 have hr7 := s7.sl.room.1
                 rw [HLen.out] at hr7
                 clear s7))
            have SD := Lib.hid S7.out.cut
            clear e11 g11 SC R5 d11 f11 IHc S7 SB b11
            generalize w7.setCell ⟨q, 11, none⟩ (.slice a7 L.length cap7) = wc at *
            have gk : wc.cell? ⟨q, 1 + k, none⟩ = some (.int .u16 (d : Int)) := by rw [← HdK.out]; exact SD.out.row.t hk10
            refine wp_region_still_tail 13 (by kernel_rfl) (by kernel_rfl) ?_
            simp only [List.take_succ_cons, List.take_zero, List.drop_succ_cons, List.drop_zero]
            repeat still_step
            still_call (HD.out _)
            repeat still_step
            refine wpStill_nil ?_
            change wpList _ _ _ _ _ wc.drew
            have cN : wc.drew.cell? ⟨q, 1 + k, none⟩ = some (.int .u16 (d : Int)) := gk
            have fN : wc.drew.frozen? ⟨q, 1 + k, none⟩ = false := SD.out.row.z (1 + k)
            have SE := Lib.hid (show SS w (wc.drew.setCell ⟨q, 1 + k, none⟩ (.int .u16 (U : Int))) q (.slice (some ⟨b, off, none⟩) R.length c1) (tkN L) a7 cap7 L ab7 cb7 (exS (cf R) r (L ++ [k]) u2 st1) from (SD.out.drewN 1).setT hk10 U HT3.out)
            clear SD gk
            generalize wc.drew = wf at *
            go_wp2
            go_roundw
            case rel => exact ⟨k + 1, _, _, _, _, by omega, by go_num, by rw [HN.out]; exact SE.out⟩
            case measure => simp [intOf]; omega
          · have HM := Lib.hid (fun m => setMeets_q (tkN L k) (csN R L.length) true (wr.drewN m) (by omega) (by omega) (decide_eq_true fun h => hf (hmt.1 h)))
            rw [exF, if_neg hf] at HN
            clear hmt hf
            generalize csN R L.length = C at *
            generalize hU : tkN L k = U at HM ct htc
            clear hU
            go_wp2
            go_quiet ((go_at_call 31; with_reducible exact Calls.quiet_of_same (HM.out _)))
            go_wp2
            go_roundw
            case rel => exact ⟨k + 1, _, _, _, _, by omega, by go_num, by rw [HN.out]; exact HS.out.drewN _⟩
            case measure => simp [intOf]; omega
        · obtain rfl : u + 1 = k := by omega
          go_wp2
          go_end0
          exact ⟨rfl, _, _, _, _, by rw [HE.out, HG1.out]; exact HS.out⟩
    · have HE := Lib.hid (show exS (cf R) (r + 1) L u st = st by rw [exS, if_neg hlt])
      have h1 : (st.1 : Int) ≤ (u : Int) := by omega
      clear hs
      go_enter Tryd.func24, Tryd.ntmps24
      go_wp2
      go_end0
      exact ⟨rfl, _, _, _, _, by rw [HE.out]; exact HS.out⟩
end Go.Proofs.YtibgpgifdjefnaaDoor
