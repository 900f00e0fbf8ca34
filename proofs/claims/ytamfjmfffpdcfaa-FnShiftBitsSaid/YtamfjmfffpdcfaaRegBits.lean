/-
  What ShiftBits answers: the outputs of the register, or nothing. No condition.
-/
import Derived.Test.YtamfjmfffpdcfaaRegIter
import Derived.Test.YtamfjmfffpdcfaaGrow
import Derived.Test.YtamfjmfffpdcfaaSpec2
namespace Go.Proofs.Ytamfjmfffpdcfaa
open Go.RowKit Go.Shelf
attribute [local go_sem] Oper.semAt_some

def shOk (t s n : Int) : Bool := regOk t s && (decide (0 ≤ n) && decide (n ≤ 1024))
def outsOr (t s n : Int) : List Int := if shOk t s n then outs t.toNat s.toNat n.toNat else []
theorem shOk_parts {t s n : Int} (h : shOk t s n = true) : regOk t s = true ∧ 0 ≤ n ∧ n ≤ 1024 := by simpa [shOk] using h

/-- Making a register lays three boxes: taps, seed, number of steps. -/
theorem reg_in (n : Nat) (t s c : Int) (w : World) :
    CallsIn Fence.wide n Try.prog 39 #[.int .i64 t, .int .i64 s, .int .i64 c] w fun e w' =>
      e = .returned (.func (.func 55) #[] #[.pointer (some ⟨w.heap.size + 1, 0, none⟩), .pointer (some ⟨w.heap.size + 1 + 1, 0, none⟩), .pointer (some ⟨w.heap.size, 0, none⟩)]) ∧
      w' = ((w.alloc (.cells #[.int .i64 t] 3)).alloc (.cells #[.int .i64 s] 3)).alloc (.cells #[.int .i64 c] 3) := by
  refine callsIn_of_wp Try.func39 rfl trivial ?_ rfl
  simp only [Try.ntmps39, List.size_toArray, List.length_cons, List.length_nil, Nat.reduceAdd, Nat.reduceSub, Array.replicate_succ, Array.replicate_zero, List.push_toArray, List.append_toArray, List.nil_append, List.cons_append]
  gi_wp2
  go_ret
  exact ⟨rfl, rfl⟩

theorem reg_stops (n : Nat) (hn : 1 ≤ n) (Bt Bs Bc T S m d : Nat) (hT : Tapped T d) (hT2 : T < 131072) (hS : S < 2 ^ d) (hS1 : 1 ≤ S) (hS2 : 2 ^ d ≤ 65536) (hm : m ≤ 1099511627776) (w : World)
    (bT : Boxed w Bt 3 (.int .i64 (T : Int))) (bS : Boxed w Bs 3 (.int .i64 (S : Int))) (bC : Boxed w Bc 3 (.int .i64 (m : Int))) :
    SeqStopsK Fence.wide n Try.prog 55 #[.pointer (some ⟨Bs, 0, none⟩), .pointer (some ⟨Bc, 0, none⟩), .pointer (some ⟨Bt, 0, none⟩)] encP (KeepsBox Bt) (fun ys => ys = regUpto T S m) (fun pre => ∃ k, k ≤ m ∧ pre = regUpto T S k) m w :=
  fun l J Jx W hW _ _ hY h0 => reg1_in Fence.wide n trivial rfl hn l Bt Bs Bc T S m d hT hT2 hS hS1 hS2 hm J Jx hY W
    ((hW.cell (p := ⟨Bt, 0, none⟩) bT.lt).trans bT.cell) ((hW.cell (p := ⟨Bs, 0, none⟩) bS.lt).trans bS.cell) ((hW.cell (p := ⟨Bc, 0, none⟩) bC.lt).trans bC.cell) h0

theorem make0 (n : Nat) (hn : n ≤ 1024) (w : World) : (Instr.makeSlice 25 (.int .i64 0) (.int .i64 (n : Int))).run Try.prog w = .ok (.slice (some ⟨w.heap.size, 0, none⟩) 0 n) (w.alloc (.cells (madeCells #[.int .i64 0] n) 3)) := by
  obtain ⟨i0, hi0, hz0, hz1, hz2⟩ := info_parts Try.infoInt
  have h := run_make (P := Try.prog) w 25 3 i0 (.int .i64 0) Try.underlying25 hi0 hz0 .i64 .i64 0 (n : Int) (by omega) (by omega) (by rw [hz2]; omega) (by omega)
  rw [hz1, Nat.mul_one] at h
  exact h

set_option maxRecDepth 100000 in
set_option maxHeartbeats 2000000 in
theorem shiftBits_in (T S N d : Nat) (hT : Tapped T d) (hT2 : T < 131072) (hS : S < 2 ^ d) (hS1 : 1 ≤ S) (hS2 : 2 ^ d ≤ 65536) (hN : N ≤ 1024) (hok : regOk (T : Int) (S : Int) = true) (w : World) :
    CallsIn Fence.wide 5 Try.prog 14 #[.int .i64 (T : Int), .int .i64 (S : Int), .int .i64 (N : Int)] w fun e w' => ListPostC (outs T S N) w e w' := by
  obtain ⟨i0, hi, hz0, hz1, hz2⟩ := info_parts Try.infoInt
  have hrv := registerValid_any (T : Int) (S : Int) w
  rw [hok] at hrv
  have HRV := Lib.hid (callsIn_wide (n := 4) |>.2 hrv)
  have hmk := make0 N hN
  clear hrv hok
  refine callsIn_of_wp_marks Try.func14 rfl trivial ?_ rfl
  simp only [Try.ntmps14, List.size_toArray, List.length_cons, List.length_nil, Nat.reduceAdd, Nat.reduceSub, Array.replicate_succ, Array.replicate_zero, List.push_toArray, List.append_toArray, List.nil_append, List.cons_append]
  gi_wp2_with (first | (refine ⟨trivial, ?_⟩; gi_at_call 38; refine HRV.out.mono ?_; rintro e w' ⟨rfl, rfl⟩) | (refine ⟨trivial, ?_⟩; gi_at_call 39; refine (reg_in _ _ _ _ _).mono ?_; rintro e w' ⟨rfl, rfl⟩))
  have bR := World.ownsRow_made (base := w.heap.size) (e := 3) (size := 1) w (madeCells #[.int .i64 0] N) N (Nat.le_refl _) (by unfold maxLen; omega) (by simp [size_madeCells])
  have bB := Boxed.new (w.alloc (.cells (madeCells #[.int .i64 0] N) 3)) 25 (.slice (some ⟨w.heap.size, 0, none⟩) 0 N)
  have bT := Boxed.new ((w.alloc (.cells (madeCells #[.int .i64 0] N) 3)).alloc (.cells #[.slice (some ⟨w.heap.size, 0, none⟩) 0 N] 25)) 3 (.int .i64 (T : Int))
  have bS := Boxed.new (((w.alloc (.cells (madeCells #[.int .i64 0] N) 3)).alloc (.cells #[.slice (some ⟨w.heap.size, 0, none⟩) 0 N] 25)).alloc (.cells #[.int .i64 (T : Int)] 3)) 3 (.int .i64 (S : Int))
  have bC := Boxed.new ((((w.alloc (.cells (madeCells #[.int .i64 0] N) 3)).alloc (.cells #[.slice (some ⟨w.heap.size, 0, none⟩) 0 N] 25)).alloc (.cells #[.int .i64 (T : Int)] 3)).alloc (.cells #[.int .i64 (S : Int)] 3)) 3 (.int .i64 (N : Int))
  simp only [World.size_alloc] at bB bT bS bC
  have hB0 : Below w.heap.size w (((((w.alloc (.cells (madeCells #[.int .i64 0] N) 3)).alloc (.cells #[.slice (some ⟨w.heap.size, 0, none⟩) 0 N] 25)).alloc (.cells #[.int .i64 (T : Int)] 3)).alloc (.cells #[.int .i64 (S : Int)] 3)).alloc (.cells #[.int .i64 (N : Int)] 3)) :=
    (((((Below.refl _ w).alloc (Nat.le_refl _) _).alloc (by simp) _).alloc (by simp; omega) _).alloc (by simp; omega) _).alloc (by simp; omega) _
  have bR' := (((bR.alloc (.cells #[.slice (some ⟨w.heap.size, 0, none⟩) 0 N] 25)).alloc (.cells #[.int .i64 (T : Int)] 3)).alloc (.cells #[.int .i64 (S : Int)] 3)).alloc (.cells #[.int .i64 (N : Int)] 3)
  have bB' := ((bB.alloc (.cells #[.int .i64 (T : Int)] 3)).alloc (.cells #[.int .i64 (S : Int)] 3)).alloc (.cells #[.int .i64 (N : Int)] 3)
  have bT' := (bT.alloc (.cells #[.int .i64 (S : Int)] 3)).alloc (.cells #[.int .i64 (N : Int)] 3)
  have bS' := bS.alloc (.cells #[.int .i64 (N : Int)] 3)
  have hsz : (((((w.alloc (.cells (madeCells #[.int .i64 0] N) 3)).alloc (.cells #[.slice (some ⟨w.heap.size, 0, none⟩) 0 N] 25)).alloc (.cells #[.int .i64 (T : Int)] 3)).alloc (.cells #[.int .i64 (S : Int)] 3)).alloc (.cells #[.int .i64 (N : Int)] 3)).heap.size = w.heap.size + 5 := by simp
  generalize (((((w.alloc (.cells (madeCells #[.int .i64 0] N) 3)).alloc (.cells #[.slice (some ⟨w.heap.size, 0, none⟩) 0 N] 25)).alloc (.cells #[.int .i64 (T : Int)] 3)).alloc (.cells #[.int .i64 (S : Int)] 3)).alloc (.cells #[.int .i64 (N : Int)] 3)) = W5 at bR' bB' bT' bS' bC hB0 hsz ⊢
  clear bR bB bT bS
  refine wpIn_rangeFunc_ownG (F := Fence.wide) rfl (by omega) (gf := 55) (lb := #[.pointer (some ⟨w.heap.size + 1 + 1 + 1, 0, none⟩), .pointer (some ⟨w.heap.size + 1 + 1 + 1 + 1, 0, none⟩), .pointer (some ⟨w.heap.size + 1 + 1, 0, none⟩)]) rfl trivial (enters_of Try.func55 (by kernel_rfl) rfl)
    (reg_stops 4 (by omega) (w.heap.size + 1 + 1) (w.heap.size + 1 + 1 + 1) (w.heap.size + 1 + 1 + 1 + 1) T S N d hT hT2 hS hS1 hS2 (by omega) W5 bT' bS' bC) keepsBox_t (keepsBox_b (by omega)) (Below.refl _ _) (fun _ => rfl)
    (fun (pre : List (Int × Int)) W => ((∃ v, Boxed W (w.heap.size + 1) 25 v ∧ W.ownsRow w.heap.size 3 1 v pre.length (pre.map fun p => .int .i64 p.1) ∧ v = .slice (some ⟨w.heap.size, 0, none⟩) pre.length N) ∧ Boxed W (w.heap.size + 1 + 1) 3 (.int .i64 (T : Int))) ∧ Below w.heap.size w W)
    (fun _ _ _ => False)
    (OwnFrom.and (OwnFrom.and (Own.from (holdsRow_own w.heap.size (w.heap.size + 1) 25 3 1 (fun (pre : List (Int × Int)) => pre.length) (fun pre => pre.map fun p => .int .i64 p.1) (fun pre v => v = .slice (some ⟨w.heap.size, 0, none⟩) pre.length N)) _) (Own.from (boxed_own _ _ _) _)) (ownFrom_below (Nat.le_refl _) (by omega)))
    (fun _ _ _ _ _ hs _ _ => hs)
    ⟨⟨⟨_, bB', bR', rfl⟩, bT'⟩, hB0⟩
    (fun x => { tmps := #[.int .i64 (T : Int), .int .i64 (S : Int), .int .i64 (N : Int), undef, undef, undef, .slice none 0 0, .pointer (some ⟨w.heap.size + 1, 0, none⟩), .int .i64 x.1,
          .int .i64 (T : Int), .int .i64 (S : Int), .bool true, .bool false, .bool false,
          .int .i64 (N : Int), .bool (decide ((N : Int) < 0)), .bool (decide ((N : Int) < 0)),
          .bool (decide ((N : Int) < 0)), .int .i64 (N : Int), .bool (decide (1024 < (N : Int))),
          .bool (decide ((N : Int) < 0) || decide (1024 < (N : Int))), .int .i64 (N : Int),
          .slice (some ⟨w.heap.size, 0, none⟩) 0 N, .int .i64 (T : Int), .int .i64 (S : Int), .int .i64 (N : Int),
          .func (.func 55) #[] #[.pointer (some ⟨w.heap.size + 1 + 1 + 1, 0, none⟩), .pointer (some ⟨w.heap.size + 1 + 1 + 1 + 1, 0, none⟩), .pointer (some ⟨w.heap.size + 1 + 1, 0, none⟩)],
          .int .i64 x.1, .int .i64 x.2, undef, undef, undef, undef, undef], defers := [] }) ?assign ?body ?done ?stop
  case assign =>
    intro l x W K hK
    gi_wp2
    exact hK
  case body =>
    rintro l pre x W ⟨⟨⟨v, hv, hrow, rfl⟩, hbT⟩, hB⟩ hlt
    have hc := hv.cell
    gi_wp2_with (gi_at_builtin; refine wpListIn_append_fits _ rfl _ _ 25 rfl w.heap.size 3 i0 1 Try.underlying25 hi hz1 w.heap.size pre.length N _ rfl (hrow.alloc _) ⟨W.heap.size, 0, none⟩ 1 1 [.int .i64 x.1] rfl rfl (cell_one_new _ _ _) (by simp [Value.oneCell']) (by omega) ?_; intro w1 hown' hgrow; obtain ⟨hv1, hv2, hr2, hk2, hb2⟩ := hv.appended (by decide) hrow hB.size (Nat.le_succ _) hown' hgrow; have hc1 := hv1.cell; have hf1 := hv1.frozen)
    have hbT1 : Boxed w1 (w.heap.size + 1 + 1) 3 (.int .i64 (T : Int)) := (hbT.alloc _).kept hgrow (by intro e; injection e; omega)
    have hbT2 := hbT1.kept (grownBy_setCell' w1 (w.heap.size + 1) (.slice (some ⟨w.heap.size, 0, none⟩) (pre.length + 1) N)) (by intro e; injection e; omega)
    exact ⟨hk2.from _, hbT2.cell.trans hbT.cell.symm, ⟨⟨_, by simpa using hv2, by simpa using hr2, by simp⟩, hbT2⟩, hB.trans hb2⟩
  case done =>
    rintro D ys W hD rfl ⟨⟨⟨v, hv, hrow, rfl⟩, hbT⟩, hB⟩ hK
    have hc := hv.cell
    gi_wp2
    refine ⟨by simp, .inl ⟨_, _, rfl, run_takeDeferred hK, ?_⟩⟩
    refine ⟨_, results_tmp rfl _ _ _, ?_⟩
    have h2 := ownsRow_putObj hrow (.deferred none) hK rfl
    rw [regUpto_length, show ((regUpto T S N).map fun p => Value.int .i64 p.1) = (outs T S N).map (Value.int .i64) by rw [← regUpto_outs, List.map_map]; rfl] at h2
    rw [regUpto_length]
    exact listPostC_grow h2 (hB.trans (belowK_b (w := w) (Nat.le_refl _) W D _ _ (by omega) hK rfl rfl))
  case stop =>
    rintro D c pre W _ _ h _
    exact h.elim
theorem shiftBits_any (t s n : Int) (w : World) : Calls Try.prog 14 #[.int .i64 t, .int .i64 s, .int .i64 n] w (ListPostC (outsOr t s n) w) := by
  have hrv := registerValid_any t s w
  cases hok : regOk t s
  · rw [hok] at hrv
    have HC := Lib.hid hrv
    have HE := Lib.hid (show outsOr t s n = [] by simp [outsOr, shOk, hok])
    clear hrv hok
    go_enter Try.func14, Try.ntmps14
    go_wp2_with (go_at_call 38; refine HC.out.mono ?_; rintro e w' ⟨rfl, rfl⟩)
    go_ret
    rw [HE.out]
    exact listPostC_nil (Below.refl _ _)
  · by_cases h0 : 0 ≤ n
    · by_cases h1 : n ≤ 1024
      · obtain ⟨T, S, rfl, rfl, hT, hS1, hS, hT2, _⟩ := regOk_nat hok
        obtain ⟨N, rfl⟩ := Int.eq_ofNat_of_zero_le h0
        have hE : outsOr (T : Int) (S : Int) (N : Int) = outs T S N := by simp [outsOr, shOk, hok, h1]
        rw [hE]
        exact callsIn_wide.1 (shiftBits_in T S N (deg (T : Int)) hT hT2 hS hS1 (pow_degR (regOk_parts hok).1) (by omega) hok w)
      · rw [hok] at hrv
        have HC := Lib.hid hrv
        have HE := Lib.hid (show outsOr t s n = [] by simp [outsOr, shOk, h1])
        clear hrv hok
        go_enter Try.func14, Try.ntmps14
        go_wp2_with (go_at_call 38; refine HC.out.mono ?_; rintro e w' ⟨rfl, rfl⟩)
        go_ret
        rw [HE.out]
        exact listPostC_nil (Below.refl _ _)
    · rw [hok] at hrv
      have HC := Lib.hid hrv
      have HE := Lib.hid (show outsOr t s n = [] by simp [outsOr, shOk, h0])
      clear hrv hok
      go_enter Try.func14, Try.ntmps14
      go_wp2_with (go_at_call 38; refine HC.out.mono ?_; rintro e w' ⟨rfl, rfl⟩)
      go_ret
      rw [HE.out]
      exact listPostC_nil (Below.refl _ _)
end Go.Proofs.Ytamfjmfffpdcfaa
