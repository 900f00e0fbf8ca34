/-
  What the copies, comparisons and marks of lists of samples answer. No condition but that a list has at most 2^20 samples.
-/
import Derived.Test.YtmolpeemifngcaaSigMem
import Derived.Deep.RegionLaw
namespace Go.Proofs.Ytmolpeemifngcaa
open Go.RowKit

theorem szSampleS_any (a : Option Addr) (c n : Nat) (w : World) (hl : n ≤ maxLen) :
    Calls Try.prog 35 #[.slice a n c, .int .i64 1048576] w fun e w' => e = .returned (.int .i64 (if n ≤ 1048576 then 1048576 - (n : Int) else -1)) ∧ w = w' := by
  have hl2 : n ≤ 9223372036854775807 := hl
  clear hl
  have r1 : wrap64 (1048576 - (n : Int)) = 1048576 - (n : Int) := by unfold wrap64; omega
  by_cases h : n ≤ 1048576
  · have h' : ¬ ((1048576 : Int) - n < 0) := by omega
    rw [if_pos h]
    clear h
    go_enter Try.func35, Try.ntmps35
    go_wp2
    go_ret
    exact ⟨rfl, rfl⟩
  · have h' : (1048576 : Int) - n < 0 := by omega
    rw [if_neg h]
    clear h
    go_enter Try.func35, Try.ntmps35
    go_wp2
    go_ret
    exact ⟨rfl, rfl⟩
theorem infoSmp2 : (Try.prog.info? 36).map (·.size) = some 2 := by kernel_rfl
theorem toSample_any (x y : Int) (w : World) :
    Calls Try.prog 63 #[.agg #[.int .i64 x, .int .i64 y]] w fun e w' => e = .returned (.agg #[.int .i64 x, .int .i64 y]) ∧ Below w.heap.size w w' := by
  go_enter Try.func63, Try.ntmps63
  go_wp2
  refine bodyPost_ret (results_cell_row (P := Try.prog) rfl _ _ (w.heap.size + 1) 36 #[.int .i64 x, .int .i64 y] (0, 0) _ rfl ?_ Try.underlying36 rfl (by rw [infoSmp2]; rfl)) rfl ?_
  · rw [Below.heap_alloc _ _ _ (by simp)]
    exact heap_last2 w _ _
  · exact ⟨rfl, ((Below.refl _ _).alloc (Nat.le_refl _) _ |>.alloc (by simp) _).alloc (by simp; omega) _⟩
theorem makeSig (n : Nat) (hn : n ≤ 1048576) (w : World) : (Instr.makeSlice 26 (.int .i64 (n : Int)) (.int .i64 (n : Int))).run Try.prog w = .ok (.slice (some ⟨w.heap.size, 0, none⟩) n n) (w.alloc (.cells (madeCells #[.int .i64 0, .int .i64 0] (n * 2)) 36)) := by
  obtain ⟨i, hi, h1, h2, h3⟩ := infoSmp_parts
  have h := run_make (P := Try.prog) w 26 36 i _ Try.underlying26 hi h1 .i64 .i64 n n (by omega) (Int.le_refl _) (by rw [h3]; omega) (by omega)
  rw [h2] at h
  exact h
theorem madeSig_row (w : World) (m : Nat) : (w.alloc (.cells (madeCells #[.int .i64 0, .int .i64 0] m) 36)).rowIs w.heap.size 36 m (fun _ => .int .i64 0) :=
  ⟨_, heap_alloc_last _ _, size_madeCells _ _, fun i hi => by
    rcases Nat.mod_two_eq_zero_or_one i with h | h <;> simp [madeCells, hi, h]⟩
/-- Row cells: the first k samples are set. -/
def setTo (ps : List Smp) (k j : Nat) : Value := if j / 2 < k then smpAt ps j else .int .i64 0
theorem setTo_next {w : World} {b t n k : Nat} {ps qs : List Smp} {x y : Int} (h : w.rowIs b t n (setTo ps k)) (hx : x = sI ps k) (hy : y = sQ ps k) (_ : qs = ps) :
    ((w.setCell ⟨b, k * 2, none⟩ (.int .i64 x)).setCell ⟨b, k * 2 + 1, none⟩ (.int .i64 y)).rowIs b t n (setTo ps (k + 1)) :=
  ((h.set (k * 2) (.int .i64 x)).set (k * 2 + 1) (.int .i64 y)).congr fun j _ => by
    subst hx hy
    by_cases e1 : j = k * 2 + 1
    · subst e1
      have e2 : (k * 2 + 1) / 2 = k := by omega
      simp only [if_true, setTo, e2, Nat.lt_succ_self, smpAt_Q]
    · by_cases e2 : j = k * 2
      · subst e2
        have e3 : k * 2 / 2 = k := by omega
        simp only [e1, if_false, if_true, setTo, e3, Nat.lt_succ_self, smpAt_I]
      · simp only [e1, e2, if_false, setTo]
        by_cases h2 : j / 2 < k
        · simp [h2, Nat.lt_succ_of_lt h2]
        · simp [h2, show ¬ j / 2 < k + 1 by omega]
set_option maxHeartbeats 1000000 in
theorem toSampleS_any (a : Option Addr) (c : Nat) (ps : List Smp) (w : World) (hx : Sigs w w.heap.size a ps) (hl : ps.length ≤ 1048576) :
    Calls Try.prog 36 #[.slice a ps.length c] w fun e w' => e = .returned (.slice (some ⟨w.heap.size, 0, none⟩) ps.length ps.length) ∧
      w'.rowIs w.heap.size 36 (ps.length * 2) (smpAt ps) ∧ Below w.heap.size w w' := by
  have hmk := makeSig ps.length hl
  have HX := Lib.hid hx
  clear hx
  go_enter Try.func36, Try.ntmps36
  go_wp2
  clear hmk
  go_loopw [4] (fun i wr => ∃ k : Nat, k ≤ ps.length ∧ i = .int .i64 k ∧ wr.rowIs w.heap.size 36 (ps.length * 2) (setTo ps k) ∧ Below w.heap.size w wr) (fun i _ => ps.length - (intOf i).toNat)
  case atStart => exact ⟨0, Nat.zero_le _, rfl, (madeSig_row w _).congr (by intro j hj; simp [setTo]), (Below.refl _ _).alloc (Nat.le_refl _) _⟩
  case round =>
    obtain ⟨k, hk, rfl, hrow, hbel⟩ := hrel
    have HR := Lib.hid hrow
    have HB := Lib.hid hbel
    have hk2 : k ≤ 1048576 := Nat.le_trans hk hl
    clear hrow hbel
    by_cases hlt : k < ps.length
    · obtain ⟨b, off, rfl, hb, hc, hc'⟩ := (HX.out.below HB.out).at_ hlt
      clear hb
      go_wp2_with fail
      refine (toSample_any (sI ps k) (sQ ps k) wr).mono ?_
      rintro e w1 ⟨rfl, b1⟩
      have R1 : Hid (w1.rowIs w.heap.size 36 (ps.length * 2) (setTo ps k)) := row_below HR.out b1 HR.out.lt
      have B1 := Lib.hid (Below.next HB.out (Nat.le_refl _) b1)
      have hf := R1.out.frozen (k * 2)
      have hf' := R1.out.frozen (k * 2 + 1)
      have hv := R1.out.cell (i := k * 2) (by omega)
      have hv' := R1.out.cell (i := k * 2 + 1) (by omega)
      have e1 : setTo ps k (k * 2) = .int .i64 0 := by simp [setTo]
      have e2 : setTo ps k (k * 2 + 1) = .int .i64 0 := by simp [setTo, show (k * 2 + 1) / 2 = k by omega]
      rw [e1] at hv
      rw [e2] at hv'
      have H1 := Lib.hid (setTo_next R1.out (x := sI ps k) (y := sQ ps k) rfl rfl (rfl : ps = ps))
      have H2 := Lib.hid ((B1.out.setCell (p := ⟨w.heap.size, k * 2, none⟩) (Nat.le_refl _) (.int .i64 (sI ps k))).setCell (p := ⟨w.heap.size, k * 2 + 1, none⟩) (Nat.le_refl _) (.int .i64 (sQ ps k)))
      clear b1 e1 e2 hc hc'
      go_wp2
      go_roundw
      case rel => exact ⟨k + 1, by omega, by go_num, H1.out, H2.out⟩
      case measure => simp [intOf]; omega
    · have H1 := Lib.hid (HR.out.congr (g := smpAt ps) (by intro j hj; simp [setTo, show j / 2 < k by omega]))
      go_wp2
      go_ret
      exact ⟨rfl, H1.out, HB.out⟩
theorem smpFields : ∃ f g : Field, (Try.prog.fieldsOf 36).toList = [f, g] ∧ f.name ≠ "_" ∧ g.name ≠ "_" ∧ f.type = 3 ∧ g.type = 3 ∧ f.offset = 0 ∧ g.offset = 1 := by
  have h : (Try.prog.fieldsOf 36).toList.map (fun f => (f.name, f.type, f.offset)) = [("I", 3, 0), ("Q", 3, 1)] := by kernel_rfl
  generalize (Try.prog.fieldsOf 36).toList = l at h ⊢
  rcases l with _ | ⟨f, _ | ⟨g, _ | ⟨z, l⟩⟩⟩
  · exact absurd (congrArg List.length h) (by simp)
  · exact absurd (congrArg List.length h) (by simp)
  · simp only [List.map_cons, List.map_nil, List.cons.injEq, Prod.mk.injEq, and_true] at h
    exact ⟨f, g, rfl, by rw [h.1.1]; decide, by rw [h.2.1]; decide, h.1.2.1, h.2.2.1, h.1.2.2, h.2.2.2⟩
  · exact absurd (congrArg List.length h) (by simp)
theorem eqSmp_deep (d : Nat) (x y x' y' : Int) (w : World) : (Op.equalIn (d + 1 + 1) 36 (.agg #[.int .i64 x, .int .i64 y]) (.agg #[.int .i64 x', .int .i64 y'])).run Try.prog w = .ok (decide (x = x') && decide (y = y')) w := by
  obtain ⟨f, g, hfg, n1, n2, t1, t2, o1, o2⟩ := smpFields
  have hp : ∀ (k : Nat) (xs : Array Value) (h : k < xs.size), (part 3 xs k).run Try.prog w = .ok xs[k] w := fun k xs h => by
    simp [part, isAgg, run_underlying Try.underlying3, h]
  have hq : ∀ x y : Int, (Op.equalIn (d + 1) 3 (.int .i64 x) (.int .i64 y)).run Try.prog w = .ok (x == y) w := fun x y => run_equalIn_int w d _ _ _ _ _ Try.underlying3
  rw [run_equalIn_struct w (d + 1) _ _ _ (by kernel_rfl) (by kernel_rfl), hfg]
  by_cases ha : x = x' <;> by_cases hb : y = y' <;> simp [Op.eqFields, n1, n2, t1, t2, o1, o2, hp, hq, ha, hb]
theorem eqSmp_run (x y x' y' : Int) (w : World) : (Op.equalIn 10000 36 (.agg #[.int .i64 x, .int .i64 y]) (.agg #[.int .i64 x', .int .i64 y'])).run Try.prog w = .ok (decide (x = x') && decide (y = y')) w := eqSmp_deep 9998 x y x' y' w
theorem sp_same {ps qs : List Smp} {k : Nat} : (decide (sI ps k = sI qs k) && decide (sQ ps k = sQ qs k)) = decide (sp ps k = sp qs k) := by
  have e1 : sp ps k = (sI ps k, sQ ps k) := rfl
  have e2 : sp qs k = (sI qs k, sQ qs k) := rfl
  rw [e1, e2, Bool.eq_iff_iff, Bool.and_eq_true, decide_eq_true_iff, decide_eq_true_iff, decide_eq_true_iff, Prod.mk.injEq]
set_option maxHeartbeats 1000000 in
theorem sameSignal_any (a a' : Option Addr) (c c' B B' : Nat) (ps qs : List Smp) (w : World) (hx : Sigs w B a ps) (hy : Sigs w B' a' qs) (hl : ps.length ≤ 1048576) :
    Calls Try.prog 17 #[.slice a ps.length c, .slice a' qs.length c'] w fun e w' => e = .returned (.bool (decide (ps = qs))) ∧ ∃ n, w' = w.drewN n := by
  have hG : Try.prog.eqGuardType Try.prog.depth 36 = false := by kernel_rfl
  by_cases hlen : ps.length = qs.length
  · have hb1 : ((ps.length : Int) != (qs.length : Int)) = false := by simp [hlen]
    have HL := Lib.hid hlen
    clear hlen
    go_enter Try.func17, Try.ntmps17
    go_wp2
    clear hb1
    go_loopw [5] (fun i wr => ∃ k n : Nat, k ≤ ps.length ∧ i = .int .i64 k ∧ ps.take k = qs.take k ∧ wr = w.drewN n) (fun i _ => ps.length - (intOf i).toNat)
    case atStart => exact ⟨0, 0, Nat.zero_le _, rfl, by simp, rfl⟩
    case round =>
      obtain ⟨k, n, hk, rfl, htk, rfl⟩ := hrel
      have HT := Lib.hid htk
      clear htk
      by_cases hlt : k < ps.length
      · have hlt' : k < qs.length := by have := HL.out; omega
        obtain ⟨b, off, rfl, hb, hc, hd⟩ := hx.at_ hlt
        obtain ⟨b', off', rfl, hb', hc', hd'⟩ := hy.at_ hlt'
        have hE := fun W => eqSmp_run (sI ps k) (sQ ps k) (sI qs k) (sQ qs k) W
        rw [sp_same] at hE
        clear hx hy
        by_cases he : sp ps k = sp qs k
        · have HE := Lib.hid he
          rw [decide_eq_true he] at hE
          clear he
          go_wp2
          go_quiet (fail)
          go_wp2
          go_roundw
          case rel => exact ⟨k + 1, _, by omega, by go_num, by rw [take_sp hlt, take_sp hlt', HT.out, HE.out], rfl⟩
          case measure => simp [intOf]; omega
        · rw [decide_eq_false he] at hE
          have HE : Hid (ps ≠ qs) := by
            intro e
            subst e
            exact he rfl
          clear he
          go_wp2
          go_quiet (fail)
          go_wp2
          go_ret
          exact ⟨ret_bool (by simp [HE.out]), _, World.drewN_drewN _ _ _⟩
      · have HE : Hid (ps = qs) := by
          have h1 : ps.take k = ps := List.take_of_length_le (by omega)
          have h2 : qs.take k = qs := List.take_of_length_le (by have := HL.out; omega)
          have h3 := HT.out
          rw [h1, h2] at h3
          exact h3
        clear hx hy
        go_wp2
        go_ret
        exact ⟨ret_bool (by simp [HE.out]), n, rfl⟩
  · have hb1 : ((ps.length : Int) != (qs.length : Int)) = true := by simp; omega
    have HE : Hid (ps ≠ qs) := by
      intro e
      subst e
      exact hlen rfl
    clear hlen
    go_enter Try.func17, Try.ntmps17
    go_wp2
    go_ret
    exact ⟨ret_bool (by simp [HE.out]), 0, rfl⟩
theorem eqSample_any (x y x' y' : Int) (w : World) :
    Calls Try.prog 64 #[.agg #[.int .i64 x, .int .i64 y], .agg #[.int .i64 x', .int .i64 y']] w fun e w' => e = .returned (.bool (decide (x = x') && decide (y = y'))) ∧ Below w.heap.size w w' := by
  have HB := Lib.hid (fun o o' : Obj => (Below.refl w.heap.size w).alloc (Nat.le_refl _) o |>.alloc (by simp) o')
  by_cases h1 : x = x'
  · by_cases h2 : y = y'
    · have z1 : (x != x') = false := by simp [h1]
      have z2 : (y != y') = false := by simp [h2]
      rw [decide_eq_true h1, decide_eq_true h2]
      clear h1 h2
      go_enter Try.func64, Try.ntmps64
      go_wp2
      go_ret
      exact ⟨rfl, HB.out _ _⟩
    · have z1 : (x != x') = false := by simp [h1]
      have z2 : (y != y') = true := by simp [h2]
      rw [decide_eq_true h1, decide_eq_false h2]
      clear h1 h2
      go_enter Try.func64, Try.ntmps64
      go_wp2
      go_ret
      exact ⟨rfl, HB.out _ _⟩
  · have z1 : (x != x') = true := by simp [h1]
    rw [decide_eq_false h1]
    clear h1
    go_enter Try.func64, Try.ntmps64
    go_wp2
    go_ret
    exact ⟨rfl, HB.out _ _⟩
set_option maxHeartbeats 1000000 in
theorem eqSampleS_any (a a' : Option Addr) (c c' B B' : Nat) (ps qs : List Smp) (w : World) (hx : Sigs w B a ps) (hy : Sigs w B' a' qs) (hB : B ≤ w.heap.size) (hB' : B' ≤ w.heap.size) (hl : ps.length ≤ 1048576) :
    Calls Try.prog 37 #[.slice a ps.length c, .slice a' qs.length c'] w fun e w' => e = .returned (.bool (decide (ps = qs))) ∧ Below w.heap.size w w' := by
  have HX := Lib.hid (hx.more hB)
  have HY := Lib.hid (hy.more hB')
  clear hx hy hB hB'
  by_cases hlen : ps.length = qs.length
  · have hb1 : ((ps.length : Int) != (qs.length : Int)) = false := by simp [hlen]
    have HL := Lib.hid hlen
    clear hlen
    go_enter Try.func37, Try.ntmps37
    go_wp2
    clear hb1
    go_loopw [5] (fun i wr => ∃ k : Nat, k ≤ ps.length ∧ i = .int .i64 k ∧ ps.take k = qs.take k ∧ Below w.heap.size w wr) (fun i _ => ps.length - (intOf i).toNat)
    case atStart => exact ⟨0, Nat.zero_le _, rfl, by simp, Below.refl _ _⟩
    case round =>
      obtain ⟨k, hk, rfl, htk, hbel⟩ := hrel
      have HT := Lib.hid htk
      have HB := Lib.hid hbel
      clear htk hbel
      by_cases hlt : k < ps.length
      · have hlt' : k < qs.length := by have := HL.out; omega
        obtain ⟨b, off, rfl, hb, hc, hd⟩ := (HX.out.below HB.out).at_ hlt
        obtain ⟨b', off', rfl, hb', hc', hd'⟩ := (HY.out.below HB.out).at_ hlt'
        have HS := Lib.hid (fun W => eqSample_any (sI ps k) (sQ ps k) (sI qs k) (sQ qs k) W)
        rw [sp_same] at HS
        clear hb hb'
        by_cases he : sp ps k = sp qs k
        · have HE := Lib.hid he
          rw [decide_eq_true he] at HS
          clear he
          go_wp2
          go_region_law (first | (go_simp; go_at_call 64; refine (HS.out _).mono ?_; rintro e w2 ⟨rfl, b2⟩; have B2 := Lib.hid b2; clear b2))
          all_goals
            go_wp2
            go_roundw
            case rel => exact ⟨k + 1, by omega, by go_num, by rw [take_sp hlt, take_sp hlt', HT.out, HE.out], Below.next HB.out.drew (Nat.le_refl _) B2.out⟩
            case measure => simp [intOf]; omega
        · rw [decide_eq_false he] at HS
          have HE : Hid (ps ≠ qs) := by
            intro e
            subst e
            exact he rfl
          clear he
          go_wp2
          go_region_law (first | (go_simp; go_at_call 64; refine (HS.out _).mono ?_; rintro e w2 ⟨rfl, b2⟩; have B2 := Lib.hid b2; clear b2))
          all_goals
            go_wp2
            go_ret
            exact ⟨ret_bool (by simp [HE.out]), Below.next HB.out.drew (Nat.le_refl _) B2.out⟩
      · have HE : Hid (ps = qs) := by
          have h1 : ps.take k = ps := List.take_of_length_le (by omega)
          have h2 : qs.take k = qs := List.take_of_length_le (by have := HL.out; omega)
          have h3 := HT.out
          rw [h1, h2] at h3
          exact h3
        go_wp2
        go_ret
        exact ⟨ret_bool (by simp [HE.out]), HB.out⟩
  · have hb1 : ((ps.length : Int) != (qs.length : Int)) = true := by simp; omega
    have HE : Hid (ps ≠ qs) := by
      intro e
      subst e
      exact hlen rfl
    clear hlen
    go_enter Try.func37, Try.ntmps37
    go_wp2
    go_ret
    exact ⟨ret_bool (by simp [HE.out]), Below.refl _ _⟩
/-- The marks k, k + 1, .. of a list of samples. -/
def marksS (k n : Nat) : List Smp := (List.range n).map fun i => (((k + i * 2 : Nat) : Int), ((k + (i * 2 + 1) : Nat) : Int))
theorem marksS_length (k n : Nat) : (marksS k n).length = n := by simp [marksS]
theorem marksS_I (k n i : Nat) (h : i < n) : sI (marksS k n) i = ((k + i * 2 : Nat) : Int) := by simp [sI, sp, marksS, h]
theorem marksS_Q (k n i : Nat) (h : i < n) : sQ (marksS k n) i = ((k + (i * 2 + 1) : Nat) : Int) := by simp [sQ, sp, marksS, h]
set_option maxHeartbeats 1000000 in
theorem markSampleS_row {t : TypeId} (b cap c n k0 : Nat) (f : Nat → Value) (w : World) (hr : w.rowIs b t cap f) (hn : n * 2 ≤ cap) (hl : n ≤ 1048576) (hk : k0 ≤ 1073741824) :
    Calls Try.prog 41 #[.slice (some ⟨b, 0, none⟩) n c, .int .i64 k0] w fun e w' => e = .returned (.int .i64 (k0 + n * 2 : Nat)) ∧ w'.rowIs b t cap (fun j => if j < n * 2 then .int .i64 (k0 + j : Nat) else f j) ∧ w.grownBy w' (some b) := by
  have HR := Lib.hid hr
  clear hr
  go_enter Try.func41, Try.ntmps41
  go_wp2
  go_loopw [1, 5] (fun q i wr => ∃ k : Nat, k ≤ n ∧ i = .int .i64 k ∧ q = .int .i64 (k0 + k * 2 : Nat) ∧ wr.rowIs b t cap (fun j => if j < k * 2 then .int .i64 (k0 + j : Nat) else f j) ∧ w.grownBy wr (some b)) (fun _ i _ => n - (intOf i).toNat)
  case atStart => exact ⟨0, Nat.zero_le _, rfl, rfl, HR.out.congr (by intro j hj; simp), World.grownBy.refl _ _⟩
  case round =>
    obtain ⟨k, hk', rfl, rfl, hrow, hg⟩ := hrel
    by_cases hlt : k < n
    · obtain ⟨m, hm⟩ : ∃ m, m = k0 + k * 2 := ⟨_, rfl⟩
      have hmb : m ≤ 1099511627776 := by omega
      have hf := hrow.frozen (k * 2)
      have hcv : wr.cell? ⟨b, k * 2, none⟩ = some (f (k * 2)) := by rw [hrow.cell (by omega)]; simp
      have hrow2 := set_mark (v := .int .i64 (m : Int)) hrow (by rw [hm])
      have hf2 := hrow2.frozen (k * 2 + 1)
      have hcv2 : (wr.setCell ⟨b, k * 2, none⟩ (.int .i64 (m : Int))).cell? ⟨b, k * 2 + 1, none⟩ = some (f (k * 2 + 1)) := by rw [hrow2.cell (by omega)]; simp
      have H1 := Lib.hid (set_mark (v := .int .i64 ((m : Int) + 1)) hrow2 (by congr 1; omega))
      have H2 := Lib.hid (grown_set (i := k * 2 + 1) (v := .int .i64 ((m : Int) + 1)) (grown_set (i := k * 2) (v := .int .i64 (m : Int)) hg))
      have HM := Lib.hid hm
      rw [← hm]
      clear hrow hg hrow2 hm
      go_wp2
      go_roundw
      case rel => exact ⟨k + 1, by omega, by go_num, by have := HM.out; go_num, by rw [show (k + 1) * 2 = k * 2 + 1 + 1 by omega]; exact H1.out, H2.out⟩
      case measure => simp [intOf]; omega
    · obtain rfl : n = k := by omega
      have H1 := Lib.hid hrow
      have H2 := Lib.hid hg
      clear hrow hg
      go_wp2
      go_ret
      exact ⟨rfl, H1.out, H2.out⟩
theorem markSampleS_nil (a : Option Addr) (c k0 : Nat) (w : World) : Calls Try.prog 41 #[.slice a 0 c, .int .i64 k0] w fun e w' => e = .returned (.int .i64 k0) ∧ w = w' := by
  go_enter Try.func41, Try.ntmps41
  go_wp2
  refine wp_loop_rounds 1 ?_
  rw [rounds_succ]
  go_wp2
  go_ret
  exact ⟨rfl, rfl⟩
theorem markSampleS_own {t : TypeId} (a : Option Addr) (c k0 B C : Nat) (ps : List Smp) (w : World) (h : OwnSig t w B C a ps) (hl : ps.length ≤ 1048576) (hk : k0 ≤ 1073741824) :
    Calls Try.prog 41 #[.slice a ps.length c, .int .i64 k0] w fun e w' => e = .returned (.int .i64 (k0 + ps.length * 2 : Nat)) ∧ OwnSig t w' B C a (marksS k0 ps.length) ∧ KeptOut B C w w' := by
  by_cases hne : ps = []
  · subst hne
    exact (markSampleS_nil a c k0 w).mono fun _ _ ⟨h1, h2⟩ => ⟨h1, fun hm => absurd (by simp [marksS]) hm, h2 ▸ KeptOut.refl _ _ _⟩
  · obtain ⟨b, cap, f, rfl, h1, h2, h3, h4, h5⟩ := h hne
    refine (markSampleS_row b cap c ps.length k0 f w h4 h3 hl hk).mono fun _ _ ⟨e1, e2, e3⟩ => ⟨e1, fun _ => ⟨b, cap, _, rfl, h1, h2, by rw [marksS_length]; exact h3, e2, fun i hi => ?_⟩, KeptOut.of_grown e3 h1 h2⟩
    rw [marksS_length] at hi
    rw [marksS_I _ _ _ hi, marksS_Q _ _ _ hi]
    exact ⟨if_pos (by omega), if_pos (by omega)⟩
set_option maxHeartbeats 1000000 in
theorem heldSampleS_any (a : Option Addr) (B c n k0 : Nat) (w : World) (hx : Sigs w B a (marksS k0 n)) (hl : n ≤ 1048576) (hk : k0 ≤ 1073741824) :
    Calls Try.prog 42 #[.slice a n c, .int .i64 k0] w fun e w' => e = .returned (.int .i64 (k0 + n * 2 : Nat)) ∧ w = w' := by
  have HX := Lib.hid hx
  clear hx
  go_enter Try.func42, Try.ntmps42
  go_wp2
  go_loop [1, 5] (fun q i => ∃ k : Nat, k ≤ n ∧ i = .int .i64 k ∧ q = .int .i64 (k0 + k * 2 : Nat)) (fun _ i => n - (intOf i).toNat)
  case atStart => exact ⟨0, Nat.zero_le _, rfl, rfl⟩
  case round =>
    obtain ⟨k, hk', rfl, rfl⟩ := hrel
    by_cases hlt : k < n
    · obtain ⟨b, off, rfl, hb, hc, hc'⟩ := HX.out.at_ (i := k) (by rw [marksS_length]; exact hlt)
      rw [marksS_I _ _ _ hlt] at hc
      rw [marksS_Q _ _ _ hlt, show ((k0 + (k * 2 + 1) : Nat) : Int) = (k0 : Int) + (k : Int) * 2 + 1 by omega] at hc'
      go_wp2
      go_round
      case rel => exact ⟨k + 1, by omega, by go_num, by go_num⟩
      case measure => simp [intOf]; omega
    · obtain rfl : n = k := by omega
      go_wp2
      go_ret
      exact ⟨rfl, rfl⟩
theorem toSampleS_sigs (a : Option Addr) (c : Nat) (ps : List Smp) (w : World) (hx : Sigs w w.heap.size a ps) (hl : ps.length ≤ 1048576) :
    Calls Try.prog 36 #[.slice a ps.length c] w fun e w' => ∃ v, e = .returned (.slice v ps.length ps.length) ∧ Sigs w' w'.heap.size v ps ∧ Below w.heap.size w w' :=
  (toSampleS_any a c ps w hx hl).mono fun _ _ ⟨h1, h2, h3⟩ => ⟨_, h1, (ownSig_row h2 rfl h2.lt).sigs, h3⟩
theorem toSampleS_own (a : Option Addr) (c : Nat) (ps : List Smp) (w : World) (hx : Sigs w w.heap.size a ps) (hl : ps.length ≤ 1048576) :
    Calls Try.prog 36 #[.slice a ps.length c] w fun e w' => ∃ v, e = .returned (.slice v ps.length ps.length) ∧ OwnSig 36 w' w.heap.size w'.heap.size v ps ∧ Below w.heap.size w w' :=
  (toSampleS_any a c ps w hx hl).mono fun _ _ ⟨h1, h2, h3⟩ => ⟨_, h1, ownSig_row h2 rfl h2.lt, h3⟩
end Go.Proofs.Ytmolpeemifngcaa
