/-
  What AccessRun answers. Condition: a list that can be read.
-/
import Derived.Test.YtenihedpbklmlaaAcc8
import Derived.Test.YtenihedpbklmlaaAcc9
import Derived.Test.YtenihedpbklmlaaAccRun
namespace Go.Proofs.Ytenihedpbklmlaa
open Go.RowKit

/-- The slots of success of the first n senders. -/
def gotL (S : Nat → AcSd) (n : Nat) : List Int := (List.range n).map fun k => (S k).got
theorem gotL_len (S : Nat → AcSd) (n : Nat) : (gotL S n).length = n := by simp [gotL]
theorem gotL_congr {S R : Nat → AcSd} {n : Nat} (h : ∀ k, k < n → (S k).got = (R k).got) : gotL S n = gotL R n := List.map_congr_left fun k hk => h k (List.mem_range.1 hk)
theorem gotL_zero (xs : List Int) (n : Nat) : gotL (acZero xs) n = List.replicate n (-1) := by
  apply List.ext_getElem
  · simp [gotL]
  · intro i h1 h2
    simp [gotL, acZero]
theorem gotL_set {S R : Nat → AcSd} {n j : Nat} {v : Int} (h : ∀ k, k < n → (R k).got = if k = j then v else (S k).got) : (gotL S n).set j v = gotL R n := by
  apply List.ext_getElem
  · simp [gotL]
  · intro i h1 h2
    rw [gotL_len] at h2
    rw [List.getElem_set]
    simp only [gotL, List.getElem_map, List.getElem_range]
    rw [h i h2]
    by_cases e : j = i
    · subst e; simp
    · rw [if_neg e, if_neg (fun h => e h.symm)]
theorem acOr_got {xs : List Int} (h : acOk xs = true) : acOr xs = gotL (acRun xs.length (acZero xs) 400) xs.length := by rw [acOr_yes h]; rfl
/-- What is left of the slots: read out of the queue in memory. -/
def acMeas (v b : Nat) (W : World) : Nat :=
  match W.cell? ⟨v, 0, none⟩ with
  | some (.slice _ (_ + 1) _) => (match W.cell? ⟨b, 1, none⟩ with
    | some (.int _ s) => 401 - min s.toNat 400
    | _ => 0)
  | _ => 0
theorem acMeas_nil {v b cap : Nat} {W : World} (h : QV W v b cap []) : acMeas v b W = 0 := by
  unfold acMeas
  rw [h.cell]
  rfl
theorem acMeas_some {v b cap : Nat} {W : World} {L : List Wt} (h : QV W v b cap L) (h0 : 0 < L.length) : acMeas v b W = 401 - min (sl L 0) 400 := by
  obtain ⟨_, c1, _, _⟩ := h.2.2.2.cells h0
  simp only [Nat.zero_mul, Nat.zero_add] at c1
  obtain ⟨k, hk⟩ : ∃ k, L.length = k + 1 := ⟨L.length - 1, by omega⟩
  unfold acMeas
  rw [h.cell, hk]
  simp only [c1]
  rfl
theorem acMeas_less {v b cap m : Nat} {W : World} {L : List Wt} (h : QV W v b cap L) (hm : m < 400) (hL : ∀ x ∈ L, m < x.s) : acMeas v b W < 401 - min m 400 := by
  by_cases h0 : 0 < L.length
  · rw [acMeas_some h h0]
    have := hL _ (qn_mem h0)
    have h2 : m < sl L 0 := this
    omega
  · obtain rfl : L = [] := List.eq_nil_of_length_eq_zero (by omega)
    rw [acMeas_nil h]
    omega
theorem hp_qL (xs : List Int) (n : Nat) : Hp (qL xs n) n := fun c c0 hc => by
  have e : ∀ k, k < n → sl (qL xs n) k = 0 := fun k hk => by unfold sl qn qL; simp [hk, wtI]
  rw [e c hc, e ((c - 1) / 2) (by omega)]
  exact Nat.le_refl _
theorem RowX.outK {W W' : World} {b : Nat} {xs : List Int} {D E : Nat} (h : RowX W b xs) (hk : KeptOut D E W W') (hd : b < D) : RowX W' b xs := World.rowIs.of_block h (hk.block b h.lt (.inl hd))
set_option maxRecDepth 10000 in
theorem qv_new {W : World} {b n : Nat} {L : List Wt} (h : QR W b n L) (hn : n ≤ 8) (hl : L.length = n) : QV (W.alloc (.cells #[.slice (some ⟨b, 0, none⟩) n n] 52)) W.heap.size b n L := by
  refine ⟨h.lt, hn, ⟨#[.slice (some ⟨b, 0, none⟩) n n], heap_alloc_last _ _, rfl, fun i hi => ?_⟩, h.keep (Below.heap_alloc W _ b h.lt)⟩
  obtain rfl : i = 0 := by omega
  rw [hl]; rfl
set_option maxRecDepth 10000 in
set_option maxHeartbeats 8000000 in
theorem accessRun_any (a : Option Addr) (c : Nat) (xs : List Int) (w : World) (hx : Ints .i64 w w.heap.size a xs) :
    Calls Try.prog 14 #[.slice a xs.length c] w (ListPostC (acOr xs) w) := by
  have HX := Lib.hid hx
  cases hok : acOk xs
  · have HI := Lib.hid (sendersValid_is a c _ xs 2047 false w hx (by rw [svOk_ac]; exact hok))
    rw [acOr_no hok]
    clear hx hok
    go_enter Try.func14, Try.ntmps14
    go_wp2_with (go_at_call 37; (with_reducible refine HI.out.mono ?_); rintro e w2 ⟨rfl, rfl⟩)
    go_ret
    exact listPostC_grow (Grow.nil _ _ _ _) (Below.refl _ _)
  · have HI := Lib.hid (sendersValid_is a c _ xs 2047 true w hx (by rw [svOk_ac]; exact hok))
    have HV := Lib.hid ((svOk_iff 2047 xs).1 (by rw [svOk_ac]; exact hok))
    have h8 : xs.length ≤ 8 := HV.out.1
    have HA := Lib.hid (acOr_got hok)
    have hal := alloc_belowX w (.cells #[.int .i64 (-1)] 3)
    have HB0 := Lib.hid hal
    have HRep := Lib.hid (repeat_any w.heap.size xs.length (w.alloc (.cells #[.int .i64 (-1)] 3)) (by simp) (by simp) h8)
    have HX1 := Lib.hid (hx.next hal)
    clear hx hok hal
    go_enter Try.func14, Try.ntmps14
    go_wp2_with (first
      | (go_at_call 37; (with_reducible refine HI.out.mono ?_); rintro e w2 ⟨rfl, rfl⟩)
      | (go_at_call 38; (with_reducible refine HRep.out.mono ?_); rintro e u1 ⟨rfl, rx1, b1⟩; have R1 := Lib.hid rx1; have B1 := Lib.hid (Below.next HB0.out (Nat.le_refl _) b1); have X1 := Lib.hid (HX1.out.next b1); clear rx1 b1)
      | (go_at_call 39; (with_reducible refine (queueOf_any a c xs _ X1.out HV.out.2 HV.out.1).mono ?_); rintro e u2 ⟨rfl, q2, b2⟩; have Q2 := Lib.hid (qv_new q2 HV.out.1 (qL_len _ _)); have R2 := Lib.hid ((R1.out.next b2).next (alloc_belowX u2 (.cells #[.slice (some ⟨u1.heap.size, 0, none⟩) xs.length xs.length] 52))); have B2 := Lib.hid (Below.next (Below.next B1.out (Nat.le_refl _) b2) (Nat.le_refl _) (alloc_belowX u2 (.cells #[.slice (some ⟨u1.heap.size, 0, none⟩) xs.length xs.length] 52))); have L1 := Lib.hid R1.out.lt; clear q2 b2))
    have hsv : u1.heap.size < u2.heap.size := Q2.out.lt.1
    have e0 : (w.alloc (.cells #[.int .i64 (-1)] 3)).heap.size = w.heap.size + 1 := by simp
    rw [e0] at R2 L1
    generalize hs0 : w.heap.size + 1 = s0 at R2 L1 ⊢
    have hs0w : w.heap.size ≤ s0 := by omega
    clear e0
    generalize u2.alloc (.cells #[.slice (some ⟨u1.heap.size, 0, none⟩) xs.length xs.length] 52) = u3 at Q2 R2 B2 ⊢
    generalize u1.heap.size = b at Q2 L1 hsv ⊢
    generalize u2.heap.size = v at Q2 hsv ⊢
    clear HRep hs0 X1 B1 R1
    have HS0 := Lib.hid hs0w
    obtain ⟨n, hn⟩ : ∃ n, n = xs.length := ⟨_, rfl⟩
    have HN := Lib.hid hn
    have HR0 : Hid (RowX u3 s0 (gotL (acRun n (acZero xs) 0) n)) := Lib.hid (by show RowX u3 s0 (gotL (acZero xs) n); rw [gotL_zero, hn]; exact R2.out)
    have HQ0 : Hid (QV u3 v b n (qL xs n)) := Lib.hid (by rw [hn]; exact Q2.out)
    have HP0 : Hid ((qL xs n).Perm (pend (acRun n (acZero xs) 0) n)) := Lib.hid (by show (qL xs n).Perm (pend (acZero xs) n); rw [pend_zero])
    rw [← hn] at HA h8 ⊢
    have HAI := Lib.hid (fun t => show AcIn (acRun n (acZero xs) t) n by rw [hn]; exact acIn_run HV.out.2 t)
    clear hn R2 Q2 hs0w
    go_loopw [5] (fun _ wr => ∃ (t : Nat) (L : List Wt), RowX wr s0 (gotL (acRun n (acZero xs) t) n) ∧ QV wr v b n L ∧ Hp L L.length ∧ L.Perm (pend (acRun n (acZero xs) t) n) ∧ (∀ x ∈ L, t ≤ x.s) ∧ t ≤ 400 ∧ Below w.heap.size w wr) (fun _ wr => acMeas v b wr)
    case atStart => exact ⟨0, qL xs n, HR0.out, HQ0.out, by rw [qL_len]; exact hp_qL xs n, HP0.out, fun _ _ => Nat.zero_le _, by omega, B2.out⟩
    case round =>
      obtain ⟨t, L, hr, hq, hh, hp, hlt, ht, hbl⟩ := hrel
      have HR := Lib.hid hr
      have HQ := Lib.hid hq
      have HH := Lib.hid hh
      have HP := Lib.hid hp
      have HT := Lib.hid hlt
      have HB := Lib.hid hbl
      have hcv := hq.cell
      clear hr hq hh hp hlt hbl HR0 HQ0 HP0 B2
      by_cases hb : 0 < L.length ∧ (sl L 0 : Int) < 400
      · have HBU := Lib.hid (busy_is wr b n L 400 true HQ.out.2.2.2 (decide_eq_true hb))
        obtain ⟨m, hm⟩ : ∃ m, m = sl L 0 := ⟨_, rfl⟩
        have hm4 : m < 400 := by have := hb.2; omega
        have htm : t ≤ m := by rw [hm]; exact HT.out _ (qn_mem hb.1)
        have HTS := Lib.hid (takeSlot_any wr v b n L HQ.out HH.out hb.1 (by omega))
        have HME := Lib.hid (show acMeas v b wr = 401 - min m 400 by rw [hm]; exact acMeas_some HQ.out hb.1)
        have HW := Lib.hid (fun k (hk : k < n) => show acRun n (acZero xs) m k = acRun n (acZero xs) t k from ac_until (fun x hx => by
          obtain ⟨i, hi, e⟩ := mem_qn (HP.out.mem_iff.2 hx)
          subst e
          rw [hm]
          exact hp_least HH.out i hi) htm hk)
        have HPm : Hid (L.Perm (pend (acRun n (acZero xs) m) n)) := Lib.hid (by rw [pend_congr HW.out]; exact HP.out)
        have HRm : Hid (RowX wr s0 (gotL (acRun n (acZero xs) m) n)) := Lib.hid (by rw [gotL_congr fun k hk => by rw [HW.out k hk]]; exact HR.out)
        unfold TakePost at HTS
        rw [← hm] at HTS
        have HM4 := Lib.hid hm4
        clear hb hm HP HR HT htm hm4
        go_wp2_with (go_at_call 40; ((with_reducible refine HBU.out.mono ?_); rintro e w1 ⟨rfl, rfl⟩))
        refine HTS.out.mono ?_
        rintro e w2 ⟨a2, c2, T, M, rfl, q2, h2, p2, ne2, l2, t2, m2, ws2, k2⟩
        have Q2 := Lib.hid q2
        have H2 := Lib.hid h2
        have P2 := Lib.hid p2
        have T2 := Lib.hid t2
        have M2 := Lib.hid m2
        have W2 := Lib.hid ws2
        have K2 := Lib.hid k2
        have hTp : 0 < T.length := List.length_pos_iff.2 ne2
        have R2 := Lib.hid (HRm.out.outK k2 L1.out)
        have B2 := Lib.hid (HB.out.trans (k2.below (Nat.le_of_lt (Nat.lt_trans HQ.out.lt.1 HQ.out.lt.2)) |>.mono (Nat.le_of_lt (Nat.lt_of_le_of_lt HS0.out L1.out))))
        clear q2 h2 p2 ne2 t2 m2 k2
        obtain ⟨g, eg, hg1, hg2, hcs⟩ := ws2 (List.length_pos_iff.1 hTp)
        subst eg
        have HCS := Lib.hid hcs
        obtain ⟨c1, c2', _, _⟩ := hcs 0 hTp
        simp only [Nat.zero_mul, Nat.zero_add] at c1 c2'
        by_cases hT1 : T.length = 1
        · have z1 : ((T.length : Int) == 1) = true := by simp [hT1]
          obtain ⟨y, hy⟩ : ∃ y, T = [y] := List.length_eq_one_iff.1 hT1
          subst hy
          have hym : y.s = m := T2.out y (by simp)
          obtain ⟨hyn, hgot⟩ := got_hit HPm.out P2.out hym M2.out
          have HPe := Lib.hid (perm_hit HPm.out P2.out hym M2.out)
          have f0 : w2.frozen? ⟨s0, y.n, none⟩ = false := World.rowIs.frozen R2.out y.n
          have cc := R2.out.cell (k := y.n) (by rw [gotL_len]; exact hyn)
          have HS := R2.out.set (k := y.n) (by rw [gotL_len]; exact hyn) (m : Int)
          rw [gotL_set (R := acS n m (acRun n (acZero xs) m)) hgot] at HS
          have HSe := Lib.hid HS
          have HQe := Lib.hid (Q2.out.keep (KeptOut.of_grown (B := s0) (C := s0 + 1) (Lib.grownBy_setCell w2 s0 y.n (.int .i64 (m : Int))) (Nat.le_refl _) (by omega)) (.inl (by have := L1.out; omega)))
          have HBe := Lib.hid (B2.out.setCell (p := ⟨s0, y.n, none⟩) HS0.out (.int .i64 (m : Int)))
          have e1 : qn [y] 0 = y := rfl
          rw [e1] at c1 c2'
          rw [hym] at c2'
          have hynI : (y.n : Int) < (n : Int) := by omega
          clear hgot HS hT1 hTp hcs hym
          go_wp2
          go_region
          go_wp2
          go_roundw
          case rel => exact ⟨m + 1, M, HSe.out, HQe.out, H2.out, HPe.out, fun x hx => M2.out x hx, by have := HM4.out; omega, HBe.out.drew⟩
          case measure => rw [HME.out]; exact acMeas_less (W := (w2.setCell ⟨s0, y.n, none⟩ (.int .i64 (m : Int))).drew) HQe.out HM4.out M2.out
        · have z1 : ((T.length : Int) == 1) = false := by simp; omega
          have hT1' : ¬ (T.length : Int) = 1 := by omega
          have HPe := Lib.hid (perm_miss HPm.out P2.out T2.out M2.out hT1)
          have HGe := Lib.hid (gotL_congr (S := acRun n (acZero xs) m) (R := acS n m (acRun n (acZero xs) m)) (n := n) fun k _ => (got_miss (by rw [acN_split HPm.out P2.out T2.out M2.out]; exact hT1) k).symm)
          have HCnt := Lib.hid (show M.length + T.length ≤ n by rw [← List.length_append, ← P2.out.length_eq]; exact HQ.out.2.2.2.1)
          have HG1 := Lib.hid (show v + 1 ≤ g by have := HQ.out.lt; omega)
          have HX9 := Lib.hid (fun k (hk : k < T.length) => show (qn T k).d < 2048 ∧ (qn T k).s ≤ 500 ∧ (qn T k).f ≤ 500 by
            have h1 := T2.out _ (qn_mem hk)
            have h4 := HM4.out
            obtain ⟨j, hj, hg, e⟩ := pend_mem.1 (HPm.out.mem_iff.1 (P2.out.mem_iff.2 (List.mem_append_right M (qn_mem hk))))
            obtain ⟨h2, h3⟩ := HAI.out m j hj
            rw [e] at h1 ⊢
            have h1' : (acRun n (acZero xs) m j).at' = m := h1
            refine ⟨h2, ?_, ?_⟩
            · show (acRun n (acZero xs) m j).at' ≤ 500
              omega
            · show (acRun n (acZero xs) m j).bad ≤ 500
              omega)
          clear hT1 hTp hcs c1 c2' hT1'
          go_wp2
          clear z1
          go_loopw [35] (fun i ws => ∃ (k : Nat) (Q : List Wt), k ≤ T.length ∧ i = .int .i64 (k : Int) ∧ QV ws v b n Q ∧ Hp Q Q.length ∧ Q.Perm (M ++ (T.take k).map wtMiss) ∧ KeptOut b (v + 1) w2 ws) (fun i _ => T.length - (intOf i).toNat)
          case atStart => exact ⟨0, M, Nat.zero_le _, rfl, Q2.out, H2.out, by simp, KeptOut.refl _ _ _⟩
          case round =>
            obtain ⟨k, Q, hk, rfl, hq, hh, hp, hkp⟩ := hrel
            have HQ3 := Lib.hid hq
            have HH3 := Lib.hid hh
            have HP3 := Lib.hid hp
            have HK3 := Lib.hid hkp
            have hcv3 := hq.cell
            clear hq hh hp hkp
            by_cases hlt : k < T.length
            · obtain ⟨d1, d2, d3, d4⟩ := HCS.out k hlt
              have hbk := HK3.out.block g hg2 (.inr HG1.out)
              have d1 := (World.cell?_of_block (a := ⟨g, k * 4, none⟩) hbk).trans d1
              have d2 := (World.cell?_of_block (a := ⟨g, k * 4 + 1, none⟩) hbk).trans d2
              have d3 := (World.cell?_of_block (a := ⟨g, k * 4 + 2, none⟩) hbk).trans d3
              have d4 := (World.cell?_of_block (a := ⟨g, k * 4 + 3, none⟩) hbk).trans d4
              obtain ⟨x1, x2, x3⟩ := HX9.out k hlt
              have HTk := Lib.hid (show T.take (k + 1) = T.take k ++ [qn T k] by rw [qn_get hlt]; exact (List.take_append_getElem hlt).symm)
              generalize qn T k = x at *
              have HAF := Lib.hid (fun W => afterFailure_any W x x1 x2 x3)
              obtain ⟨y, hy⟩ : ∃ y, y = wtMiss x := ⟨_, rfl⟩
              have HY := Lib.hid hy
              rw [← hy] at HAF
              have hQl : Q.length < n := by
                have h1 := HP3.out.length_eq
                rw [List.length_append, List.length_map, List.length_take] at h1
                have h2 := HCnt.out
                omega
              have HPU := Lib.hid (fun W h => push_any W v b n Q y h HH3.out hQl)
              unfold wtV at HAF HPU
              have hltI : (k : Int) < (T.length : Int) := by omega
              clear hbk x1 x2 x3 hy hQl
              go_wp2_with (first
                | (go_at_call 43; ((with_reducible refine (HAF.out _).mono ?_); rintro e w5 ⟨rfl, b5⟩; have B5 := Lib.hid (Below.next (alloc_belowX wr (.cells #[.int .i64 x.n, .int .i64 x.s, .int .i64 x.d, .int .i64 x.f] 56)) (Nat.le_refl _) b5); clear b5))
                | (go_at_call 42; ((with_reducible refine (HPU.out _ (HQ3.out.next B5.out)).mono ?_); rintro e w6 ⟨rfl, Q6, q6, h6, p6, k6⟩; have HF6 := Lib.hid (And.intro q6 (And.intro h6 (And.intro p6 ((HK3.out.andThen (KeptOut.of_below B5.out)).andThen k6)))); clear q6 h6 p6 k6)))
              go_roundw
              case rel =>
                obtain ⟨q6, h6, p6, k6⟩ := HF6.out
                refine ⟨k + 1, Q6, by omega, by go_num, q6, h6, ?_, k6⟩
                rw [HTk.out, List.map_append, ← List.append_assoc]
                refine p6.trans ?_
                rw [show [x].map wtMiss = [y] by rw [HY.out]; rfl]
                exact HP3.out.append_right [y]
              case measure => simp [intOf]; omega
            · obtain rfl : T.length = k := by omega
              rw [List.take_length] at HP3
              have HLo := Lib.hid (fun x (hx : x ∈ Q) => show m < x.s by
                rcases List.mem_append.1 (HP3.out.mem_iff.1 hx) with h | h
                · exact M2.out x h
                · obtain ⟨z, hz, rfl⟩ := List.mem_map.1 h
                  have h1 := T2.out z hz
                  show m < z.s + _
                  omega)
              have HRe : Hid (RowX wr s0 (gotL (acRun n (acZero xs) (m + 1)) n)) := Lib.hid (by
                show RowX wr s0 (gotL (acS n m (acRun n (acZero xs) m)) n)
                rw [← HGe.out]
                exact R2.out.outK HK3.out L1.out)
              have HBe := Lib.hid (B2.out.trans ((HK3.out.below (by have := Q2.out.lt; omega)).mono (Nat.le_of_lt (Nat.lt_of_le_of_lt HS0.out L1.out))))
              go_wp2
              go_roundw
              case rel => exact ⟨m + 1, Q, HRe.out, HQ3.out, HH3.out, HP3.out.trans HPe.out, fun x hx => HLo.out x hx, by have := HM4.out; omega, HBe.out⟩
              case measure => rw [HME.out]; exact acMeas_less HQ3.out HM4.out HLo.out
      · have HBU := Lib.hid (busy_is wr b n L 400 false HQ.out.2.2.2 (decide_eq_false hb))
        have HF := Lib.hid hb
        clear hb
        go_wp2_with (go_at_call 40; ((with_reducible refine HBU.out.mono ?_); rintro e w1 ⟨rfl, rfl⟩))
        go_ret
        have hlo : ∀ x ∈ pend (acRun n (acZero xs) t) n, 400 ≤ x.s := fun x hx => by
          obtain ⟨i, hi, e⟩ := mem_qn (HP.out.mem_iff.2 hx)
          subst e
          have h1 := hp_least HH.out i hi
          have h2 : ¬ (sl L 0 : Int) < 400 := fun h => HF.out ⟨by omega, h⟩
          show 400 ≤ sl L i
          omega
        rw [HA.out, gotL_congr (R := acRun n (acZero xs) t) fun k hk => by rw [ac_until hlo ht hk]]
        exact rowX_post HR.out (by rw [gotL_len]; unfold maxLen; omega) HS0.out HB.out (gotL_len _ _).symm
end Go.Proofs.Ytenihedpbklmlaa
