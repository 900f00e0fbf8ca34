/-
  What busyBefore, afterFailure and queueOf answer. Conditions: a queue that lies there; numbers in their range; a list that can be read.
-/
import Derived.Test.YtenihedpbklmlaaAccHp
namespace Go.Proofs.Ytenihedpbklmlaa
open Go.RowKit

set_option maxRecDepth 10000 in
theorem busy_is (W : World) (b cap : Nat) (L : List Wt) (t : Int) (r : Bool) (h : QR W b cap L) (hr : decide (0 < L.length ∧ (sl L 0 : Int) < t) = r) :
    Calls Try.prog 40 #[.slice (some ⟨b, 0, none⟩) L.length cap, .int .i64 t] W fun e w' => e = .returned (.bool r) ∧ W = w' := by
  by_cases h0 : 0 < L.length
  · obtain ⟨_, c1, _, _⟩ := h.cells h0
    have h0' : 0 < (L.length : Int) := by omega
    obtain ⟨x, hx⟩ : ∃ x, x = (qn L 0).s := ⟨_, rfl⟩
    unfold sl at hr
    rw [← hx] at c1 hr
    have e1 : r = decide ((x : Int) < t) := by rw [← hr]; simp [h0]
    clear hr hx h
    subst e1
    by_cases hlt : (x : Int) < t
    · go_enter Try.func40, Try.ntmps40
      go_wp2
      go_ret
      exact ⟨ret_bool (by simp [hlt]), rfl⟩
    · go_enter Try.func40, Try.ntmps40
      go_wp2
      go_ret
      exact ⟨ret_bool (by simp; omega), rfl⟩
  · have h0' : ¬ 0 < (L.length : Int) := by omega
    have e1 : r = false := by rw [← hr]; simp [h0]
    clear hr h
    subst e1
    go_enter Try.func40, Try.ntmps40
    go_wp2
    go_ret
    exact ⟨ret_bool (by simp), rfl⟩
/-- A sender that has failed once more. -/
def wtMiss (x : Wt) : Wt := ⟨x.n, x.s + (1 + acBo (acNx x.d) (min (x.f + 1) 100)), acNx x.d, x.f + 1⟩
theorem boOr_miss (x : Wt) : boOr (acNx x.d : Int) ((min (x.f + 1) 100 : Nat) : Int) = (acBo (acNx x.d) (min (x.f + 1) 100) : Int) := boOr_nat (acNx_lt _) (by omega) (by omega)
theorem miss_nums {n s d f : Nat} (hd : d < 2048) (hs : s ≤ 500) (hf : f ≤ 500) : ∃ f1 d1 q : Nat, ∃ m u v : Int, (f : Int) + 1 = (f1 : Int) ∧ nsOr (d : Int) = (d1 : Int) ∧ boOr (d1 : Int) m = (q : Int) ∧ 1 + (q : Int) = u ∧ (s : Int) + u = v ∧
    (IntKind.i64.wrap (f1 : Int) = (f1 : Int) ∧ wrap64 (f1 : Int) = (f1 : Int)) ∧ (IntKind.i64.wrap u = u ∧ wrap64 u = u) ∧ (IntKind.i64.wrap v = v ∧ wrap64 v = v) ∧ ((100 : Int) < (f1 : Int) ∧ m = 100 ∨ ¬ (100 : Int) < (f1 : Int) ∧ m = (f1 : Int)) ∧
    wtV (wtMiss ⟨n, s, d, f⟩) = .agg #[.int .i64 n, .int .i64 v, .int .i64 d1, .int .i64 f1] := by
  have h1 := acBo_small (acNx d) (min (f + 1) 100)
  refine ⟨f + 1, acNx d, acBo (acNx d) (min (f + 1) 100), ((min (f + 1) 100 : Nat) : Int), _, _, by omega, nsOr_nat hd, boOr_miss ⟨n, s, d, f⟩, rfl, rfl, ⟨wrapW (by omega), wrapW' (by omega)⟩, ⟨wrapW (by omega), wrapW' (by omega)⟩, ⟨wrapW (by omega), wrapW' (by omega)⟩, by omega, ?_⟩
  unfold wtV wtMiss
  simp only
  congr 2
set_option maxRecDepth 10000 in
theorem infoWt4 : (Try.prog.info? 56).map (·.size) = some 4 := by kernel_rfl
set_option maxRecDepth 10000 in
theorem resultsWt {fn : Func} {p : Tmp} (h : fn.results = #[.cell p 56]) (tmps : Array Value) (w : World) (g : Nat) (cs : Array Value)
    (hp : tmps.getD p undef = .pointer (some ⟨g, 0, none⟩)) (hg : w.heap[g]? = some (.cells cs 56 (0, 0))) (hs : cs.size = 4) : (results fn tmps).run Try.prog w = .ok (.agg cs) w :=
  results_cell_row (P := Try.prog) h tmps w g 56 cs (0, 0) _ hp hg Try.underlying56 rfl (by rw [infoWt4, hs])
set_option maxRecDepth 10000 in
set_option maxHeartbeats 4000000 in
theorem afterFailure_any (W : World) (x : Wt) (hd : x.d < 2048) (hs : x.s ≤ 500) (hf : x.f ≤ 500) :
    Calls Try.prog 43 #[wtV x] W fun e w' => e = .returned (wtV (wtMiss x)) ∧ Below W.heap.size W w' := by
  obtain ⟨f1, d1, q, m, u, v, e1, e2, e3, e4, e5, ⟨r1, r1'⟩, ⟨r2, r2'⟩, ⟨r3, r3'⟩, hm, hE⟩ := miss_nums (n := x.n) hd hs hf
  rw [show (⟨x.n, x.s, x.d, x.f⟩ : Wt) = x from rfl] at hE
  have HE := Lib.hid hE
  have HN := Lib.hid (fun W => nextSeed_any (x.d : Int) W)
  have HBo := Lib.hid (fun W => backoffSlots_any (d1 : Int) m W)
  rw [e2] at HN
  rw [e3] at HBo
  clear e2 e3 hd hs hf hE
  have HW := Lib.hid (fun (c1 c2 : Array Value) => ((Below.refl W.heap.size W).alloc (Nat.le_refl _) (.cells c1 56)).alloc (by simp) (.cells c2 56))
  rw [HE.out]
  unfold wtV
  generalize x.n = n, x.s = s, x.d = d, x.f = f at *
  rcases hm with ⟨hc, rfl⟩ | ⟨hc, rfl⟩
  · go_enter Try.func43, Try.ntmps43
    go_wp2_with (go_at_call 58; ((with_reducible refine (HN.out _).mono ?_); rintro e w1 ⟨rfl, rfl⟩))
    go_region_law (go_simp; go_at_call 59; ((with_reducible refine (HBo.out _).mono ?_); rintro e w2 ⟨rfl, rfl⟩))
    all_goals
      go_wp2
      refine bodyPost_ret (resultsWt rfl _ _ (W.heap.size + 1) _ rfl (by first | exact heap_last2 _ _ _ | (simp; done)) rfl) rfl ?_
      exact ⟨rfl, below_drewN (HW.out _ _) 1⟩
  · have hif : (if (100 : Int) < (f1 : Int) then (100 : Int) else (f1 : Int)) = (f1 : Int) := if_neg hc
    go_enter Try.func43, Try.ntmps43
    go_wp2_with (go_at_call 58; ((with_reducible refine (HN.out _).mono ?_); rintro e w1 ⟨rfl, rfl⟩))
    go_region_law (go_simp; go_at_call 59; ((with_reducible refine (HBo.out _).mono ?_); rintro e w2 ⟨rfl, rfl⟩))
    all_goals
      go_wp2
      refine bodyPost_ret (resultsWt rfl _ _ (W.heap.size + 1) _ rfl (by first | exact heap_last2 _ _ _ | (simp; done)) rfl) rfl ?_
      exact ⟨rfl, below_drewN (HW.out _ _) 1⟩
/-- The queue at the beginning. -/
def wtI (xs : List Int) (k : Nat) : Wt := ⟨k, 0, (el xs k).toNat, 0⟩
def qL (xs : List Int) (k : Nat) : List Wt := (List.range k).map (wtI xs)
theorem qL_len (xs : List Int) (k : Nat) : (qL xs k).length = k := by simp [qL]
theorem qL_next (xs : List Int) (k : Nat) : qL xs (k + 1) = qL xs k ++ [wtI xs k] := by simp [qL, List.range_succ]
set_option maxRecDepth 10000 in
theorem infoWt_parts : ∃ i, Try.prog.info? 56 = some i ∧ i.zero = some (.agg #[.int .i64 0, .int .i64 0, .int .i64 0, .int .i64 0]) ∧ i.size = 4 ∧ i.bytes = 32 := by
  have h : (Try.prog.info? 56).map (fun i => (i.zero, i.size, i.bytes)) = some (some (.agg #[.int .i64 0, .int .i64 0, .int .i64 0, .int .i64 0]), 4, 32) := by kernel_rfl
  obtain ⟨i, hi, hz⟩ := Option.map_eq_some_iff.1 h
  simp only [Prod.mk.injEq] at hz
  exact ⟨i, hi, hz.1, hz.2.1, hz.2.2⟩
set_option maxRecDepth 10000 in
theorem makeWtQ (n : Nat) (hn : n ≤ 8) (w : World) : (Instr.makeSlice 52 (.int .i64 (n : Int)) (.int .i64 (n : Int))).run Try.prog w = .ok (.slice (some ⟨w.heap.size, 0, none⟩) n n) (w.alloc (.cells (madeCells #[.int .i64 0, .int .i64 0, .int .i64 0, .int .i64 0] (n * 4)) 56)) := by
  obtain ⟨i, hi, h1, h2, h3⟩ := infoWt_parts
  have h := run_make (P := Try.prog) w 52 56 i _ Try.underlying52 hi h1 .i64 .i64 n n (by omega) (Int.le_refl _) (by rw [h3]; omega) (by omega)
  rw [h2] at h
  exact h
theorem madeQ_row (w : World) (z : Array Value) (n : Nat) (t : TypeId) : (w.alloc (.cells (madeCells z n) t)).rowIs w.heap.size t n (fun i => (madeCells z n).getD i undef) :=
  ⟨_, heap_alloc_last _ _, size_madeCells _ _, fun i hi => by
    have : i < (madeCells z n).size := by rw [size_madeCells]; exact hi
    simp [this]⟩
set_option maxRecDepth 10000 in
set_option maxHeartbeats 2000000 in
theorem queueOf_any (a : Option Addr) (c : Nat) (xs : List Int) (w : World) (hx : Ints .i64 w w.heap.size a xs) (hv : svTo 2047 xs xs.length) (hl : xs.length ≤ 8) :
    Calls Try.prog 39 #[.slice a xs.length c] w fun e w' => e = .returned (.slice (some ⟨w.heap.size, 0, none⟩) xs.length xs.length) ∧ QR w' w.heap.size xs.length (qL xs xs.length) ∧ Below w.heap.size w w' := by
  have HX := Lib.hid hx
  have HV := Lib.hid hv
  have HL := Lib.hid hl
  have hmk := makeWtQ xs.length hl
  have HQ := Lib.hid (show QR (w.alloc (.cells (madeCells #[.int .i64 0, .int .i64 0, .int .i64 0, .int .i64 0] (xs.length * 4)) 56)) w.heap.size xs.length (qL xs 0) from ⟨Nat.zero_le _, _, madeQ_row _ _ _ _, fun i hi => absurd hi (Nat.not_lt_zero _)⟩)
  have HB := Lib.hid (alloc_belowX w (.cells (madeCells #[.int .i64 0, .int .i64 0, .int .i64 0, .int .i64 0] (xs.length * 4)) 56))
  clear hx hv hl
  go_enter Try.func39, Try.ntmps39
  go_wp2
  clear hmk
  generalize w.alloc (.cells (madeCells #[.int .i64 0, .int .i64 0, .int .i64 0, .int .i64 0] (xs.length * 4)) 56) = u at HQ HB ⊢
  go_loopw [11] (fun i wr => ∃ k : Nat, k ≤ xs.length ∧ i = .int .i64 k ∧ QR wr w.heap.size xs.length (qL xs k) ∧ Below w.heap.size w wr) (fun i _ => xs.length - (intOf i).toNat)
  case atStart => exact ⟨0, Nat.zero_le _, rfl, HQ.out, HB.out⟩
  case round =>
    obtain ⟨k, hk, rfl, hq, hbl⟩ := hrel
    have HR := Lib.hid hq
    have HN := Lib.hid hbl
    have hk8 : k ≤ 8 := Nat.le_trans hk HL.out
    clear hq hbl HQ HB
    by_cases hlt : k < xs.length
    · obtain ⟨b, off, rfl, hb, hc⟩ := (HX.out.below HN.out).at_ hlt
      obtain ⟨d, hd⟩ : ∃ d : Nat, el xs k = d := ⟨(el xs k).toNat, by have := HV.out k hlt; omega⟩
      rw [hd] at hc
      obtain ⟨u0, d0⟩ := HR.out.room (i := k * 4) (by omega)
      obtain ⟨u1, d1⟩ := HR.out.room (i := k * 4 + 1) (by omega)
      obtain ⟨u2, d2⟩ := HR.out.room (i := k * 4 + 2) (by omega)
      obtain ⟨u3, d3⟩ := HR.out.room (i := k * 4 + 3) (by omega)
      have f0 := HR.out.frozen (k * 4)
      have f1 := HR.out.frozen (k * 4 + 1)
      have f2 := HR.out.frozen (k * 4 + 2)
      have f3 := HR.out.frozen (k * 4 + 3)
      have hS := HR.out.snoc (by rw [qL_len]; exact hlt) (wtI xs k)
      rw [← qL_next, qL_len] at hS
      have hI : wtI xs k = ⟨k, 0, d, 0⟩ := by unfold wtI; rw [hd]; rfl
      rw [hI] at hS
      have HS := Lib.hid hS
      have HK := Lib.hid (((KeptOut.refl w.heap.size (w.heap.size + 1) wr).toPut4 (b := w.heap.size) (Nat.le_refl _) (by omega) k ⟨k, 0, d, 0⟩).below HN.out.size)
      clear hS hI hd
      go_wp2
      go_roundw
      case rel => exact ⟨k + 1, by omega, by go_num, HS.out, HN.out.trans HK.out⟩
      case measure => simp [intOf]; omega
    · obtain rfl : xs.length = k := by omega
      go_wp2
      go_ret
      exact ⟨rfl, HR.out, HN.out⟩
end Go.Proofs.Ytenihedpbklmlaa
