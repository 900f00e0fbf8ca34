/-
  The laws of SignalValid, SignalPower and TurnSamples, walked: they return true for every code, and write into nothing that was there. No condition.
-/
import Derived.Test.YtmolpeemifngcaaSigDraw
import Derived.Test.YtmolpeemifngcaaSig4
import Derived.Test.YtmolpeemifngcaaLaw2
namespace Go.Proofs.Ytmolpeemifngcaa
open Go.RowKit

theorem smpCells_sigs {w : World} {B : Nat} {ad : Addr} {qs : List Smp} (h : Sigs w B (some ad) qs) : ∀ j u, (smpCells qs)[j]? = some u → w.cell? (ad.add j) = some u := by
  intro j u hj
  have hjl : j < qs.length * 2 := by have := (List.getElem?_eq_some_iff.1 hj).1; rwa [smpCells_length] at this
  have hi : j / 2 < qs.length := by omega
  obtain ⟨b, off, e, _, h0, h1⟩ := h.at_ hi
  obtain ⟨c0, c1⟩ := smpCells_at qs (j / 2) hi
  injection e with e
  subst e
  have hadd : (⟨b, off, none⟩ : Addr).add j = ⟨b, off + j, none⟩ := by unfold Addr.add; split <;> simp_all
  rw [hadd]
  rcases Nat.mod_two_eq_zero_or_one j with hm | hm
  · rw [show j / 2 * 2 = j by omega] at c0 h0
    rw [c0] at hj
    rw [h0, hj]
  · rw [show j / 2 * 2 + 1 = j by omega] at c1
    rw [show off + j / 2 * 2 + 1 = off + j by omega] at h1
    rw [c1] at hj
    rw [h1, hj]
section
variable {w : World} {ops : Array Oper} {rest : List Oper} {o : Oper} {a : Act} {Q : Exit → Act → World → Prop}
theorem wpList_appendSigS (s x : Operand) (base : Nat) (A : Option Addr) (n cap : Nat) (ps qs : List Smp) (ad : Addr) (m c B : Nat)
    (hw : Region.wanted o (yielded ops a.tmps) = true) (ho : o.op = .call { callee := .builtin .append, args := #[s, x], argTypes := #[26, 26] }) (hs : a.eval s = .slice A n cap) (hx : a.eval x = .slice (some ad) m c)
    (hg : GrowS 36 w base A n cap ps) (hy : Sigs w B (some ad) qs) (hm : qs.length = m) (hn : n + m < 1099511627776) (hb : base ≤ w.heap.size)
    (h : ∀ a' cap' w', GrowS 36 w' base a' (n + m) cap' (ps ++ qs) → Below base w w' → wpList Try.prog ops Q rest (a.put o.dst (.slice a' (n + m) cap')) w') : wpList Try.prog ops Q (o :: rest) a w := by
  refine wpList_wanted hw fun K hK => ?_
  obtain ⟨i0, hi0, hz0, hz1, hz2⟩ := infoSmp_parts
  refine wp_append_own w s x _ ho base 36 i0 (.agg #[.int .i64 0, .int .i64 0]) 2 16 Try.underlying26 hi0 hz0 hz1 hz2 rfl (by omega) _ n _ hs hg ad m c (smpCells qs) hx (by rw [smpCells_length, hm]) (smpCells_sigs hy)
    (fun u hu => by
      simp only [smpCells, List.mem_flatMap] at hu
      obtain ⟨p, _, hu⟩ := hu
      simp at hu
      rcases hu with rfl | rfl <;> rfl) (by unfold maxLen; omega) (by omega) hb ?_
  intro v' w' h2 h3 _
  obtain ⟨⟨a', cap', rfl, h4⟩, h5⟩ := growS_of_own hg hb h2 h3
  exact hK _ _ (h _ _ _ h4 h5)
theorem wpList_appendSig1g (s x : Operand) (base : Nat) (A : Option Addr) (n cap : Nat) (ps : List Smp) (g : Nat) (u v : Int)
    (hw : Region.wanted o (yielded ops a.tmps) = true) (ho : o.op = .call { callee := .builtin .append, args := #[s, x], argTypes := #[26, 26] }) (hs : a.eval s = .slice A n cap) (hx : a.eval x = .slice (some ⟨g, 0, none⟩) 1 1)
    (hg : GrowS 36 w base A n cap ps) (hc : w.heap[g]? = some (.cells #[.int .i64 u, .int .i64 v] 36 (0, 0))) (hn : n < 1099511627775) (hb : base ≤ w.heap.size)
    (h : ∀ a' cap' w', GrowS 36 w' base a' (n + 1) cap' (ps ++ [(u, v)]) → Below base w w' → wpList Try.prog ops Q rest (a.put o.dst (.slice a' (n + 1) cap')) w') : wpList Try.prog ops Q (o :: rest) a w :=
  wpList_wanted hw fun K hK => by
    obtain ⟨i0, hi0, hz0, hz1, hz2⟩ := infoSmp_parts
    refine wp_append_own w s x _ ho base 36 i0 (.agg #[.int .i64 0, .int .i64 0]) 2 16 Try.underlying26 hi0 hz0 hz1 hz2 rfl (by omega) _ n _ hs hg ⟨g, 0, none⟩ 1 1 (smpCells [(u, v)]) hx rfl
      (smpCells_one (cell_of_row _ _ _ _ _ _ hc) (cell_of_row _ _ 1 _ _ _ hc)) (fun q hq => by simp [smpCells] at hq; rcases hq with rfl | rfl <;> rfl) (by unfold maxLen; omega) (by omega) hb ?_
    intro v' w' h2 h3 _
    obtain ⟨⟨a', cap', rfl, h4⟩, h5⟩ := growS_of_own hg hb h2 h3
    exact hK _ _ (h _ _ _ h4 h5)
end
section
variable {w : World} {ops : Array Oper} {rest : List Oper} {o : Oper} {a : Act} {Q : Exit → Act → World → Prop}
theorem wpList_eqSmp (x y : Operand) (u v u' v' : Int) (E : Bool) (hE : E = (decide (u = u') && decide (v = v')))
    (hw : Region.wanted o (yielded ops a.tmps) = true) (ho : o.op = .binOp .eql 36 x y 36) (hx : a.eval x = .agg #[.int .i64 u, .int .i64 v]) (hy : a.eval y = .agg #[.int .i64 u', .int .i64 v'])
    (h : wpList Try.prog ops Q rest (a.put o.dst (.bool E)) w) : wpList Try.prog ops Q (o :: rest) a w := by
  have hG : Try.prog.eqGuardType Try.prog.depth 36 = false := by kernel_rfl
  refine wpList_wanted hw fun K hK => ?_
  unfold Oper.wp execOp
  simp only [ho, hx, hy, Sem.run_bind, Sem.run_pure, Result.andThen_ok, run_eqGuard_agg w _ _ _ _ _ _ hG, run_eql_struct, eqSmp_run, ← hE]
  exact hK _ _ h
end
theorem sigOk_low (ps : List Smp) : sigOk (ps ++ [(0, -100001)]) = false := sigOk_snoc rfl

set_option maxHeartbeats 2000000 in
theorem walkSignalValid (a : Option Addr) (c : Nat) (ds : List Int) (w : World) (hx : Ints .u8 w w.heap.size a ds) (hw : ∀ n ∈ ds, (Lit.int .u8 n).wf = true) (hc : ds.length ≤ c) (hcm : c ≤ maxLen) :
    Calls Try.prog 4 #[.slice a ds.length c] w fun e w' => e = .returned (.bool true) ∧ Below w.heap.size w w' := by
  have hb := isByte_of_wf hw
  clear hw
  by_cases hl : ds.length ≤ 1048576
  · go_enter Try.func4, Try.ntmps4
    go_wp2_with fail
    refine (drawSignalValid_any a c ds w hx hb hc hcm).mono ?_
    rintro e w1 ⟨ps, b0, c1, rfl, l1, ⟨lc, _⟩, i1, b1⟩
    have I1 := Lib.hid i1
    have B1 := Lib.hid b1
    clear hx hb hc hcm i1 b1
    have L1 := Lib.hid (show ps.length ≤ maxLen by unfold maxLen; omega)
    go_wp2_with fail
    refine (signalValid_any (some ⟨b0, 0, none⟩) c1 ps w1 I1.out).mono ?_
    rintro e w2 ⟨rfl, b2⟩
    have I2 := Lib.hid (I1.out.next b2)
    have B2 := Lib.hid (Below.next B1.out (Nat.le_refl _) b2)
    clear b2 I1 B1
    cases hok : sigOk ps
    · have h1 := specSignalValid_any (some ⟨b0, 0, none⟩) c1 w2.heap.size ps w2 I2.out L1.out
      rw [hok] at h1
      have H1 := Lib.hid h1
      clear h1 hok
      go_wp2_with fail
      refine H1.out.mono ?_
      rintro e w3 ⟨rfl, rfl⟩
      clear H1
      have hI := Lib.hid (fun o : Obj => Sigs.below (w := w2) I2.out ((Below.refl w2.heap.size w2).alloc (Nat.le_refl _) o))
      go_wp2_with (first
        | (at_builtin; refine wpList_appendSigS (.tmp 27) (.tmp 28) w2.heap.size (some ⟨w2.heap.size, 0, none⟩) 0 0 [] ps ⟨b0, 0, none⟩ ps.length c1 _ rfl rfl rfl rfl (GrowS.lit0 _ _ _ (Nat.le_refl _)) (hI.out _) rfl (by omega) (by simp) ?_; intro a3 cap3 w3 hg3 hb3; have HG3 := Lib.hid hg3; have HB3 := Lib.hid hb3; clear hg3 hb3; have hs3 : w2.heap.size ≤ w3.heap.size := by (have := HB3.out.size; simp at this; omega))
        | (at_builtin; refine wpList_appendSig1g (.tmp 29) (.tmp 31) w2.heap.size a3 ps.length cap3 ps w3.heap.size 0 (-100001) rfl rfl rfl rfl (by have := HG3.out.alloc (.cells #[.int .i64 0, .int .i64 (-100001)] 36); rw [Nat.zero_add] at this; exact this) (heap_alloc_last _ _) (by omega) (by simp; omega) ?_; intro a4 cap4 w4 hg4 hb4; have HG4 := Lib.hid hg4; have HB4 := Lib.hid hb4; clear hg4 hb4))
      have h5 := signalValid_any a4 cap4 (ps ++ [(0, -100001)]) w4 HG4.out.sigs
      rw [HG4.out.len, sigOk_low] at h5
      have H5 := Lib.hid h5
      have B4 := Lib.hid ((B2.out.trans (((Below.refl w2.heap.size w2).alloc (Nat.le_refl _) _).mono B2.out.size)).trans ((HB3.out.mono B2.out.size).trans (((Below.refl w2.heap.size w3).alloc hs3 _).mono B2.out.size)) |>.trans (HB4.out.mono B2.out.size))
      clear h5
      refine H5.out.mono ?_
      rintro e w5 ⟨rfl, b5⟩
      have B5 := Lib.hid (Below.next B4.out (Nat.le_refl _) b5)
      clear b5
      go_wp2_with fail
      refine (alive_any w5).mono ?_
      rintro e w6 ⟨rfl, b6⟩
      have B6 := Lib.hid (Below.next B5.out (Nat.le_refl _) b6)
      clear b6
      go_wp2
      go_ret
      exact ⟨rfl, B6.out⟩
    · have h1 := specSignalValid_any (some ⟨b0, 0, none⟩) c1 w2.heap.size ps w2 I2.out L1.out
      have h3 := signalValid_any (some ⟨b0, 0, none⟩) c1 (ps.take (ps.length / 2)) w2 (I2.out.take _)
      have hlt : (ps.take (ps.length / 2)).length = ps.length / 2 := by simp; omega
      rw [sigOk_take hok, hlt] at h3
      rw [hok] at h1
      have H1 := Lib.hid h1
      have H3 := Lib.hid h3
      clear h1 h3 hok hlt
      have hhalf : ps.length / 2 ≤ c1 := by omega
      go_wp2_with fail
      refine H1.out.mono ?_
      rintro e w3 ⟨rfl, rfl⟩
      clear H1
      go_wp2_with fail
      refine H3.out.mono ?_
      rintro e u2 ⟨rfl, b3⟩
      have J2 := Lib.hid (I2.out.next b3)
      have C2 := Lib.hid (Below.next B2.out (Nat.le_refl _) b3)
      clear b3 H3
      have hI := Lib.hid (fun o : Obj => Sigs.below (w := u2) J2.out ((Below.refl u2.heap.size u2).alloc (Nat.le_refl _) o))
      go_wp2_with (first
        | (at_builtin; refine wpList_appendSigS (.tmp 27) (.tmp 28) u2.heap.size (some ⟨u2.heap.size, 0, none⟩) 0 0 [] ps ⟨b0, 0, none⟩ ps.length c1 _ rfl rfl rfl rfl (GrowS.lit0 _ _ _ (Nat.le_refl _)) (hI.out _) rfl (by omega) (by simp) ?_; intro a3 cap3 w3 hg3 hb3; have HG3 := Lib.hid hg3; have HB3 := Lib.hid hb3; clear hg3 hb3; have hs3 : u2.heap.size ≤ w3.heap.size := by (have := HB3.out.size; simp at this; omega))
        | (at_builtin; refine wpList_appendSig1g (.tmp 29) (.tmp 31) u2.heap.size a3 ps.length cap3 ps w3.heap.size 0 (-100001) rfl rfl rfl rfl (by have := HG3.out.alloc (.cells #[.int .i64 0, .int .i64 (-100001)] 36); rw [Nat.zero_add] at this; exact this) (heap_alloc_last _ _) (by omega) (by simp; omega) ?_; intro a4 cap4 w4 hg4 hb4; have HG4 := Lib.hid hg4; have HB4 := Lib.hid hb4; clear hg4 hb4))
      have h5 := signalValid_any a4 cap4 (ps ++ [(0, -100001)]) w4 HG4.out.sigs
      rw [HG4.out.len, sigOk_low] at h5
      have H5 := Lib.hid h5
      have B4 := Lib.hid ((C2.out.trans (((Below.refl u2.heap.size u2).alloc (Nat.le_refl _) _).mono C2.out.size)).trans ((HB3.out.mono C2.out.size).trans (((Below.refl u2.heap.size w3).alloc hs3 _).mono C2.out.size)) |>.trans (HB4.out.mono C2.out.size))
      clear h5
      refine H5.out.mono ?_
      rintro e w5 ⟨rfl, b5⟩
      have B5 := Lib.hid (Below.next B4.out (Nat.le_refl _) b5)
      clear b5
      go_wp2_with fail
      refine (alive_any w5).mono ?_
      rintro e w6 ⟨rfl, b6⟩
      have B6 := Lib.hid (Below.next B5.out (Nat.le_refl _) b6)
      clear b6
      go_wp2
      go_ret
      exact ⟨rfl, B6.out⟩
  · go_enter Try.func4, Try.ntmps4
    go_wp2
    go_ret
    exact ⟨rfl, Below.refl _ _⟩
theorem drop_sig {w : World} {B b h c : Nat} {ps : List Smp} (hlc : ps.length ≤ c) (hx : Sigs w B (some ⟨b, 0, none⟩) ps) : Sigs w B (if c = h then some ⟨b, 0, none⟩ else some ⟨b, h * 2, none⟩) (ps.drop h) := by
  split
  · next e =>
    rw [List.drop_eq_nil_of_le (by omega)]
    exact Sigs.nil
  · have := hx.drop h
    rwa [Nat.zero_add] at this
theorem sigZero_take {ps : List Smp} {k : Nat} (h : k < ps.length) : sigZero (ps.take (k + 1)) = (sigZero (ps.take k) && (decide (sI ps k = 0) && decide (sQ ps k = 0))) := by
  have e : decide (sp ps k = ((0, 0) : Smp)) = (decide (sI ps k = 0) && decide (sQ ps k = 0)) := by
    have e1 : sp ps k = (sI ps k, sQ ps k) := rfl
    rw [e1, Bool.eq_iff_iff, Bool.and_eq_true, decide_eq_true_iff, decide_eq_true_iff, decide_eq_true_iff, Prod.mk.injEq]
  rw [take_sp h, sigZero, List.all_append, ← e]
  simp [sigZero]
/-- The powers of the two halves. -/
theorem pw_halves {ps : List Smp} (h : sigOk ps = true) (m : Nat) : pwOr (ps.take m) = sgw (ps.take m) ∧ pwOr (ps.drop m) = sgw (ps.drop m) ∧ sgw (ps.take m) + sgw (ps.drop m) = sgw ps ∧ (0 ≤ sgw ps ∧ sgw ps ≤ 1000000000000000) := by
  refine ⟨by simp [pwOr, sigOk_take h m], by simp [pwOr, sigOk_drop h m], by rw [← pw_append, List.take_append_drop], ?_⟩
  have := pw_take_range h ps.length
  rw [List.take_length] at this
  omega
set_option maxHeartbeats 2000000 in
theorem walkSignalPower (a : Option Addr) (c : Nat) (ds : List Int) (w : World) (hx : Ints .u8 w w.heap.size a ds) (hw : ∀ n ∈ ds, (Lit.int .u8 n).wf = true) (hc : ds.length ≤ c) (hcm : c ≤ maxLen) :
    Calls Try.prog 8 #[.slice a ds.length c] w fun e w' => e = .returned (.bool true) ∧ Below w.heap.size w w' := by
  have hb := isByte_of_wf hw
  clear hw
  by_cases hl : ds.length ≤ 1048576
  · go_enter Try.func8, Try.ntmps8
    go_wp2_with fail
    refine (drawSignalPower_any a c ds w hx hb hc hcm).mono ?_
    rintro e w1 ⟨ps, b0, c1, rfl, l1, ⟨lc, _⟩, i1, b1⟩
    have I1 := Lib.hid i1
    have B1 := Lib.hid b1
    clear hx hb hc hcm i1 b1
    have L1 := Lib.hid (show ps.length ≤ maxLen by unfold maxLen; omega)
    have l2 : ps.length ≤ 300 := l1
    obtain ⟨P, hP⟩ : ∃ P, P = pwOr ps := ⟨_, rfl⟩
    have HP := Lib.hid hP
    have zP : (P != P) = false := by simp
    clear hP l1
    go_wp2_with fail
    refine (signalPower_any (some ⟨b0, 0, none⟩) c1 ps w1 I1.out).mono ?_
    rw [← HP.out]
    rintro e w2 ⟨rfl, b2⟩
    have I2 := Lib.hid (I1.out.next b2)
    have B2 := Lib.hid (Below.next B1.out (Nat.le_refl _) b2)
    clear b2 I1 B1
    go_wp2_with fail
    refine (specSignalPower_any (some ⟨b0, 0, none⟩) c1 w2.heap.size ps w2 I2.out L1.out).mono ?_
    rw [← HP.out]
    rintro e w3 ⟨rfl, n3, rfl⟩
    have B3 := Lib.hid (below_drewN B2.out n3)
    have I3 : Hid (Sigs (w2.drewN n3) (w2.drewN n3).heap.size (some ⟨b0, 0, none⟩) ps) := I2.out
    clear I2 B2
    generalize w2.drewN n3 = w3 at *
    cases hok : sigOk ps
    · have hP1 : P = -1 := by rw [HP.out]; simp [pwOr, hok]
      clear HP hok
      subst hP1
      go_wp2_with fail
      refine (alive_any w3).mono ?_
      rintro e w6 ⟨rfl, b6⟩
      have B6 := Lib.hid (Below.next B3.out (Nat.le_refl _) b6)
      clear b6
      go_wp2
      go_ret
      exact ⟨rfl, B6.out⟩
    · have hP1 : P = sgw ps := by rw [HP.out]; simp [pwOr, hok]
      obtain ⟨h, hh⟩ : ∃ h, h = ps.length / 2 := ⟨_, rfl⟩
      obtain ⟨f1, f2, f3, f4⟩ := pw_halves hok h
      have HZ : Hid ((P == 0) = sigZero ps) := by
        show (P == 0) = sigZero ps
        rw [Bool.eq_iff_iff, beq_iff_eq, hP1, pw_zeros]
      have HO := Lib.hid hok
      have HF : Hid (P = sgw ps ∧ pwOr (ps.take h) = sgw (ps.take h) ∧ pwOr (ps.drop h) = sgw (ps.drop h) ∧ sgw (ps.take h) + sgw (ps.drop h) = P ∧ (0 ≤ P ∧ P ≤ 1000000000000000)) := by
        rw [hP1]; exact ⟨rfl, f1, f2, f3, f4⟩
      have hP0 : ¬ (P < 0) := by omega
      have HH := Lib.hid hh
      clear hok HP hP1 f1 f2 f3 f4 hh
      go_wp2
      clear hP0
      go_loop [6, 7] (fun z i => ∃ k : Nat, k ≤ ps.length ∧ i = .int .i64 k ∧ z = .bool (sigZero (ps.take k))) (fun _ i => ps.length - (intOf i).toNat)
      case atStart => exact ⟨0, Nat.zero_le _, rfl, rfl⟩
      case round =>
        obtain ⟨k, hk, rfl, rfl⟩ := hrel
        by_cases hlt : k < ps.length
        · obtain ⟨b, off, hbo, _, hc0, hc1⟩ := I3.out.at_ hlt
          injection hbo with hbo
          injection hbo with e1 e2
          subst e1 e2
          rw [Nat.zero_add] at hc0 hc1
          have hk2 : k ≤ 300 := by omega
          have hT := sigZero_take hlt
          obtain ⟨E, hEE⟩ : ∃ E, E = (decide (sI ps k = 0) && decide (sQ ps k = 0)) := ⟨_, rfl⟩
          rw [← hEE] at hT
          have HEE := Lib.hid hEE
          clear hEE
          cases hz : sigZero (ps.take k)
          · rw [hz] at hT
            have HT := Lib.hid hT
            clear hT hz
            go_wp2
            go_round
            case rel => exact ⟨k + 1, by omega, by go_num, by rw [HT.out]; rfl⟩
            case measure => simp [intOf]; omega
          · rw [hz, Bool.true_and] at hT
            have HT := Lib.hid hT
            clear hT hz
            go_wp2_with (refine wpList_eqSmp (.tmp 40) (.tmp 41) (sI ps k) (sQ ps k) 0 0 E HEE.out rfl rfl rfl rfl ?_)
            go_round
            case rel => exact ⟨k + 1, by omega, by go_num, by rw [HT.out]⟩
            case measure => simp [intOf]; omega
        · obtain rfl : ps.length = k := by omega
          obtain ⟨-, q1, q2, q3, q4⟩ := HF.out
          obtain ⟨P1, hP1⟩ : ∃ P1, P1 = sgw (ps.take h) := ⟨_, rfl⟩
          obtain ⟨P2, hP2⟩ : ∃ P2, P2 = sgw (ps.drop h) := ⟨_, rfl⟩
          have hh2 : h ≤ ps.length := by have := HH.out; omega
          have hhc : h ≤ c1 := by omega
          have hdiv : (ps.length : Int) / 2 = (h : Int) := by have := HH.out; omega
          have H1 : Hid (∀ A cc W, Sigs W W.heap.size A (ps.take h) → Calls Try.prog 32 #[.slice A h cc] W fun e w' => e = .returned (.int .i64 P1) ∧ Below W.heap.size W w') := fun A cc W hs => by
            have := signalPower_any A cc (ps.take h) W hs
            rw [q1, ← hP1, List.length_take, Nat.min_eq_left hh2] at this
            exact this
          have H2 : Hid (∀ A cc W, Sigs W W.heap.size A (ps.drop h) → Calls Try.prog 32 #[.slice A (ps.length - h) cc] W fun e w' => e = .returned (.int .i64 P2) ∧ Below W.heap.size W w') := fun A cc W hs => by
            have := signalPower_any A cc (ps.drop h) W hs
            rw [q2, ← hP2, List.length_drop] at this
            exact this
          have r1 : IntKind.i64.wrap (P1 + P2) = P := by rw [hP1, hP2, q3]; exact wrapP q4
          have z1 : (P == P) = true := by simp
          have hz := HZ.out
          have HD := Lib.hid (fun W (hb : Below w3.heap.size w3 W) => drop_sig (h := h) lc (I3.out.next hb))
          have HT := Lib.hid (fun m => I3.out.take m)
          rw [List.take_length]
          have D1 := Lib.hid hdiv
          have D2 := Lib.hid hh2
          have D3 := Lib.hid hhc
          have D4 := Lib.hid r1
          obtain ⟨Z, hZ⟩ : ∃ Z, Z = sigZero ps := ⟨_, rfl⟩
          rw [← hZ] at hz
          rw [← hZ]
          have D5 := Lib.hid hz
          have hkb : decide ((ps.length : Int) < (ps.length : Int)) = false := by simp
          clear hZ q1 q2 q3 q4 hP1 hP2 hk hlt hdiv hh2 hhc r1 hz z1 l2 hl zP
          go_wp2
          rw [D1.out]
          have hz := D5.out
          have hh2 := D2.out
          have hhc := D3.out
          have r1 := D4.out
          have z1 : (P == P) = true := by simp
          have z2 : (Z == Z) = true := by simp
          clear hkb
          refine wp_region_any (by kernel_rfl) ?_
          change wpAny _ _ _ _ _ _ _ (World.drew _)
          refine wpAny_take (i := 0) (v := ?v0) rfl (by kernel_rfl) (by kernel_rfl) (by kernel_rfl) (fun _ _ _ h => h) (Or.inl ⟨by kernel_rfl, ?h0⟩) ?_
          case h0 => intro w; go_simp; try with_reducible rfl
          go_simp
          refine wpAny_take (i := 1) (v := ?v1) rfl (by kernel_rfl) (by kernel_rfl) (by kernel_rfl) (fun _ _ _ h => h) (Or.inl ⟨by kernel_rfl, ?h1⟩) ?_
          case h1 => intro w; go_simp; try with_reducible rfl
          go_simp
          refine wpAny_take (i := 2) (v := ?v2) rfl (by kernel_rfl) (by kernel_rfl) (by kernel_rfl) (fun _ _ _ h => h) (Or.inl ⟨by kernel_rfl, ?h2⟩) ?_
          case h2 => intro w; go_simp; try with_reducible rfl
          go_simp
          refine wpAny_take (i := 3) (v := ?v3) rfl (by kernel_rfl) (by kernel_rfl) (by kernel_rfl) (fun _ _ _ h => h) (Or.inl ⟨by kernel_rfl, ?h3⟩) ?_
          case h3 => intro w; go_simp; try with_reducible rfl
          go_simp
          refine wpAny_take (i := 4) (v := ?v4) rfl (by kernel_rfl) (by kernel_rfl) (by kernel_rfl) (fun _ _ _ h => h) (Or.inl ⟨by kernel_rfl, ?h4⟩) ?_
          case h4 => intro w; go_simp; try with_reducible rfl
          go_simp
          refine wpAny_take (i := 5) (v := ?v5) rfl (by kernel_rfl) (by kernel_rfl) (by kernel_rfl) (fun _ _ _ h => h) (Or.inl ⟨by kernel_rfl, ?h5⟩) ?_
          case h5 => intro w; go_simp; try with_reducible rfl
          go_simp
          refine wpAny_take (i := 6) (v := ?v6) rfl (by kernel_rfl) (by kernel_rfl) (by kernel_rfl) (fun _ _ _ h => h) (Or.inl ⟨by kernel_rfl, ?h6⟩) ?_
          case h6 => intro w; go_simp; try with_reducible rfl
          go_simp
          refine wpAny_take (i := 7) (v := ?v7) rfl (by kernel_rfl) (by kernel_rfl) (by kernel_rfl) (fun _ _ _ h => h) (Or.inl ⟨by kernel_rfl, ?h7⟩) ?_
          case h7 => intro w; go_simp; try with_reducible rfl
          go_simp
          refine wpAny_take (i := 8) (v := ?v8) rfl (by kernel_rfl) (by kernel_rfl) (by kernel_rfl) (fun _ _ _ h => h) (Or.inl ⟨by kernel_rfl, ?h8⟩) ?_
          case h8 => intro w; go_simp; try with_reducible rfl
          go_simp
          refine wpAny_take (i := 10) (v := ?v10) rfl (by kernel_rfl) (by kernel_rfl) (by kernel_rfl) (fun _ _ _ h => h) (Or.inl ⟨by kernel_rfl, ?h10⟩) ?_
          case h10 => intro w; go_simp; try with_reducible rfl
          go_simp
          refine wpAny_take (i := 11) (v := ?v11) rfl (by kernel_rfl) (by kernel_rfl) (by kernel_rfl) (fun _ _ _ h => h) (Or.inl ⟨by kernel_rfl, ?h11⟩) ?_
          case h11 => intro w; go_simp; try with_reducible rfl
          go_simp
          refine wpAny_take (i := 12) (v := ?v12) rfl (by kernel_rfl) (by kernel_rfl) (by kernel_rfl) (fun _ _ _ h => h) (Or.inl ⟨by kernel_rfl, ?h12⟩) ?_
          case h12 => intro w; go_simp; try with_reducible rfl
          go_simp
          refine wpAny_ready (rs := [9]) (by kernel_rfl) (by simp) (AllReady.cons rfl (fun K hK => ?_) AllReady.nil)
          go_simp
          refine (H1.out (some ⟨b0, 0, none⟩) c1 w3.drew (HT.out h)).mono ?_
          rintro e w5 ⟨rfl, b5⟩
          have B5 := Lib.hid (Below.next (w' := w3.drew) (Below.refl w3.heap.size w3).drew (Nat.le_refl _) b5)
          clear b5
          go_simp
          refine hK _ _ ?_
          clear hK K
          refine wpAny_ready (rs := [13]) (by kernel_rfl) (by simp) (AllReady.cons rfl (fun K hK => ?_) AllReady.nil)
          go_simp
          refine (H2.out _ _ _ (HD.out _ B5.out)).mono ?_
          rintro e w6 ⟨rfl, b6⟩
          have B6 := Lib.hid (Below.next B5.out (Nat.le_refl _) b6)
          clear b6
          go_simp
          refine hK _ _ ?_
          clear hK K
          refine wpAny_take (i := 14) (v := ?v14) rfl (by kernel_rfl) (by kernel_rfl) (by kernel_rfl) (fun _ _ _ h => h) (Or.inl ⟨by kernel_rfl, ?h14⟩) ?_
          case h14 => intro w; go_simp; try with_reducible rfl
          go_simp
          refine wpAny_take (i := 15) (v := ?v15) rfl (by kernel_rfl) (by kernel_rfl) (by kernel_rfl) (fun _ _ _ h => h) (Or.inl ⟨by kernel_rfl, ?h15⟩) ?_
          case h15 => intro w; go_simp; try with_reducible rfl
          go_simp
          refine wpAny_take (i := 16) (v := ?v16) rfl (by kernel_rfl) (by kernel_rfl) (by kernel_rfl) (fun _ _ _ h => h) (Or.inl ⟨by kernel_rfl, ?h16⟩) ?_
          case h16 => intro w; go_simp; try with_reducible rfl
          go_simp
          refine wpAny_take (i := 17) (v := ?v17) rfl (by kernel_rfl) (by kernel_rfl) (by kernel_rfl) (fun _ _ _ h => h) (Or.inl ⟨by kernel_rfl, ?h17⟩) ?_
          case h17 => intro w; go_simp; try with_reducible rfl
          go_simp
          refine wpAny_done (by kernel_rfl) ?_ _
          go_simp
          go_wp2
          all_goals
            go_ret
            exact ⟨rfl, Below.next B3.out (Nat.le_refl _) B6.out⟩
  · go_enter Try.func8, Try.ntmps8
    go_wp2
    go_ret
    exact ⟨rfl, Below.refl _ _⟩
end Go.Proofs.Ytmolpeemifngcaa
