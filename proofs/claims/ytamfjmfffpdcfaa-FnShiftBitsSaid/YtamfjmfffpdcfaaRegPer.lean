/-
  What ShiftPeriod answers: the period of the register, or 0. No condition.
-/
import Derived.Test.YtamfjmfffpdcfaaRegBits
namespace Go.Proofs.Ytamfjmfffpdcfaa
open Go.RowKit Go.Shelf
attribute [local go_sem] Oper.semAt_some

theorem i64_wrap (x : Int) : IntKind.i64.wrap x = wrap64 x := by rw [IntKind.wrap_i64]; unfold wrap64; omega
theorem regAt_mem {T S k m : Nat} (h : k < m) : regAt T S k ∈ regUpto T S m := List.mem_map.2 ⟨k, List.mem_range.2 h, rfl⟩
/-- What a loop that stops at the seed has seen. -/
theorem per_of_stop {T S k : Nat} {ini : List (Int × Int)} {last : Int × Int} (e1 : regUpto T S k = ini ++ [last]) (e2 : ∀ p ∈ ini, p.2 ≠ (S : Int)) (e3 : last.2 = (S : Int)) : IsPer T S k := by
  obtain ⟨k', rfl⟩ : ∃ k', k = k' + 1 := by
    cases k with
    | zero => simp [regUpto] at e1
    | succ k' => exact ⟨k', rfl⟩
  rw [regUpto_succ] at e1
  obtain ⟨rfl, e5⟩ := List.append_inj' e1 rfl
  obtain rfl : regAt T S k' = last := by simpa using e5
  refine ⟨by omega, Int.ofNat_inj.1 e3, fun j h1 h2 e => e2 (regAt T S (j - 1)) (regAt_mem (by omega)) ?_⟩
  obtain ⟨i, rfl⟩ : ∃ i, j = i + 1 := ⟨j - 1, by omega⟩
  simp [regAt, e]

set_option maxRecDepth 100000 in
set_option maxHeartbeats 2000000 in
theorem shiftPeriod_in (T S P d : Nat) (hd : d = deg (T : Int)) (hT : Tapped T d) (hT2 : T < 131072) (hS : S < 2 ^ d) (hS1 : 1 ≤ S) (hS2 : 2 ^ d ≤ 65536) (hP : IsPer T S P) (hPd : P ≤ 2 ^ d - 1) (hok : regOk (T : Int) (S : Int) = true) (w : World) :
    CallsIn Fence.wide 5 Try.prog 18 #[.int .i64 (T : Int), .int .i64 (S : Int)] w fun e w' => e = .returned (.int .i64 (P : Int)) ∧ Below w.heap.size w w' := by
  have hrv := fun W => registerValid_any (T : Int) (S : Int) W
  rw [hok] at hrv
  have HRV := Lib.hid (fun W => callsIn_wide (n := 4) |>.2 (hrv W))
  have hdg := fun W => degreeOf_any (T : Int) W
  rw [show degOr (T : Int) = (d : Int) by rw [hd]; simp [degOr, (regOk_parts hok).1]] at hdg
  have HDG := Lib.hid (fun W => callsIn_wide (n := 4) |>.2 (hdg W))
  have hl : d ≤ 16 := by rw [hd]; exact (deg_lt (regOk_parts hok).1).2
  have hpw : wrap64 ((2 : Int) ^ d) = ((2 ^ d : Nat) : Int) := by rw [hd]; exact pow_word (regOk_parts hok).1
  obtain ⟨Q, hQ⟩ : ∃ Q, Q = 2 ^ d := ⟨_, rfl⟩
  rw [← hQ] at hpw hPd hS2
  have hQ1 : 1 ≤ Q := by rw [hQ]; exact Nat.two_pow_pos d
  have HQ := Lib.hid hQ
  have HS := Lib.hid hS
  clear hrv hok hdg hQ hd hS
  refine callsIn_of_wp_marks Try.func18 rfl trivial ?_ rfl
  simp only [Try.ntmps18, List.size_toArray, List.length_cons, List.length_nil, Nat.reduceAdd, Nat.reduceSub, Array.replicate_succ, Array.replicate_zero, List.push_toArray, List.append_toArray, List.nil_append, List.cons_append]
  gi_wp2_with (first | (refine ⟨trivial, ?_⟩; gi_at_call 38; refine (HRV.out _).mono ?_; rintro e w' ⟨rfl, rfl⟩) | (refine ⟨trivial, ?_⟩; gi_at_call 23; refine (HDG.out _).mono ?_; rintro e w' ⟨rfl, rfl⟩) | (refine ⟨trivial, ?_⟩; gi_at_call 39; refine (reg_in _ _ _ _ _).mono ?_; rintro e w' ⟨rfl, rfl⟩))
  have hmx : Try.prog.follows .mixedOrders = true := by kernel_rfl
  have hpw2 : IntKind.i64.wrap (((Q : Nat) : Int) - 1) = ((Q - 1 : Nat) : Int) := by
    rw [show ((Q : Nat) : Int) - 1 = ((Q - 1 : Nat) : Int) by omega]
    rw [i64_wrap]
    exact wrap64_in (n := Q - 1) (by omega)
  refine wpIn_mono (Q := Exit.then (fun a' w' => a' = { tmps := #[.int .i64 (T : Int), .int .i64 (S : Int), undef, .pointer (some ⟨w.heap.size, 0, none⟩), .int .i64 0, .pointer (some ⟨w.heap.size + 1, 0, none⟩), undef, undef,
      .int .i64 (T : Int), .int .i64 (S : Int), .bool true, .bool false, .int .i64 (T : Int), .int .i64 (S : Int), .int .i64 (T : Int), .int .i64 (d : Int), .int .i64 (Q : Int), .int .i64 ((Q - 1 : Nat) : Int),
      .func (.func 55) #[] #[.pointer (some ⟨w.heap.size + 1 + 1 + 1, 0, none⟩), .pointer (some ⟨w.heap.size + 1 + 1 + 1 + 1, 0, none⟩), .pointer (some ⟨w.heap.size + 1 + 1, 0, none⟩)], undef, undef, undef, undef, undef, undef, undef, undef], defers := [] } ∧ w' = (((((w.alloc (.cells #[.int .i64 (S : Int)] 3)).alloc (.cells #[.int .i64 0] 3)).alloc (.cells #[.int .i64 (T : Int)] 3)).alloc (.cells #[.int .i64 (S : Int)] 3)).alloc (.cells #[.int .i64 ((Q - 1 : Nat) : Int)] 3)).drew) (fun _ _ _ => False)) ?_ ?_
  · gi_region_with_o (first | (refine ⟨trivial, ?_⟩; gi_at_call 23; refine (HDG.out _).mono ?_; rintro e w' ⟨rfl, rfl⟩) | (refine ⟨trivial, ?_⟩; gi_at_call 39; refine (reg_in _ _ _ _ _).mono ?_; rintro e w' ⟨rfl, rfl⟩))
    all_goals
      rw [i64_wrap ((2 : Int) ^ d), hpw, hpw2]
      exact ⟨rfl, rfl⟩
  · rintro ex a' w' h
    cases ex <;> try exact h.elim
    obtain ⟨rfl, rfl⟩ := h
    gi_wp2
    have bS := Boxed.new w 3 (.int .i64 (S : Int))
    have bP := Boxed.new (w.alloc (.cells #[.int .i64 (S : Int)] 3)) 3 (.int .i64 0)
    have bT := Boxed.new ((w.alloc (.cells #[.int .i64 (S : Int)] 3)).alloc (.cells #[.int .i64 0] 3)) 3 (.int .i64 (T : Int))
    have bS2 := Boxed.new (((w.alloc (.cells #[.int .i64 (S : Int)] 3)).alloc (.cells #[.int .i64 0] 3)).alloc (.cells #[.int .i64 (T : Int)] 3)) 3 (.int .i64 (S : Int))
    have bC := Boxed.new ((((w.alloc (.cells #[.int .i64 (S : Int)] 3)).alloc (.cells #[.int .i64 0] 3)).alloc (.cells #[.int .i64 (T : Int)] 3)).alloc (.cells #[.int .i64 (S : Int)] 3)) 3 (.int .i64 ((Q - 1 : Nat) : Int))
    simp only [World.size_alloc] at bP bT bS2 bC
    have hB0 : Below w.heap.size w (((((w.alloc (.cells #[.int .i64 (S : Int)] 3)).alloc (.cells #[.int .i64 0] 3)).alloc (.cells #[.int .i64 (T : Int)] 3)).alloc (.cells #[.int .i64 (S : Int)] 3)).alloc (.cells #[.int .i64 ((Q - 1 : Nat) : Int)] 3)) :=
      (((((Below.refl _ w).alloc (Nat.le_refl _) _).alloc (by simp) _).alloc (by simp; omega) _).alloc (by simp; omega) _).alloc (by simp; omega) _
    have bS' := (((bS.alloc (.cells #[.int .i64 0] 3)).alloc (.cells #[.int .i64 (T : Int)] 3)).alloc (.cells #[.int .i64 (S : Int)] 3)).alloc (.cells #[.int .i64 ((Q - 1 : Nat) : Int)] 3)
    have bP' := ((bP.alloc (.cells #[.int .i64 (T : Int)] 3)).alloc (.cells #[.int .i64 (S : Int)] 3)).alloc (.cells #[.int .i64 ((Q - 1 : Nat) : Int)] 3)
    have bT' := (bT.alloc (.cells #[.int .i64 (S : Int)] 3)).alloc (.cells #[.int .i64 ((Q - 1 : Nat) : Int)] 3)
    have bS2' := bS2.alloc (.cells #[.int .i64 ((Q - 1 : Nat) : Int)] 3)
    have hsz : (((((w.alloc (.cells #[.int .i64 (S : Int)] 3)).alloc (.cells #[.int .i64 0] 3)).alloc (.cells #[.int .i64 (T : Int)] 3)).alloc (.cells #[.int .i64 (S : Int)] 3)).alloc (.cells #[.int .i64 ((Q - 1 : Nat) : Int)] 3)).drew.heap.size = w.heap.size + 5 := by simp
    have hB1 : Below w.heap.size w (((((w.alloc (.cells #[.int .i64 (S : Int)] 3)).alloc (.cells #[.int .i64 0] 3)).alloc (.cells #[.int .i64 (T : Int)] 3)).alloc (.cells #[.int .i64 (S : Int)] 3)).alloc (.cells #[.int .i64 ((Q - 1 : Nat) : Int)] 3)).drew := below_drewN hB0 1
    have bS3 : Boxed (((((w.alloc (.cells #[.int .i64 (S : Int)] 3)).alloc (.cells #[.int .i64 0] 3)).alloc (.cells #[.int .i64 (T : Int)] 3)).alloc (.cells #[.int .i64 (S : Int)] 3)).alloc (.cells #[.int .i64 ((Q - 1 : Nat) : Int)] 3)).drew w.heap.size 3 (.int .i64 (S : Int)) := bS'
    have bP3 : Boxed (((((w.alloc (.cells #[.int .i64 (S : Int)] 3)).alloc (.cells #[.int .i64 0] 3)).alloc (.cells #[.int .i64 (T : Int)] 3)).alloc (.cells #[.int .i64 (S : Int)] 3)).alloc (.cells #[.int .i64 ((Q - 1 : Nat) : Int)] 3)).drew (w.heap.size + 1) 3 (.int .i64 0) := bP'
    have bT3 : Boxed (((((w.alloc (.cells #[.int .i64 (S : Int)] 3)).alloc (.cells #[.int .i64 0] 3)).alloc (.cells #[.int .i64 (T : Int)] 3)).alloc (.cells #[.int .i64 (S : Int)] 3)).alloc (.cells #[.int .i64 ((Q - 1 : Nat) : Int)] 3)).drew (w.heap.size + 1 + 1) 3 (.int .i64 (T : Int)) := bT'
    have bS4 : Boxed (((((w.alloc (.cells #[.int .i64 (S : Int)] 3)).alloc (.cells #[.int .i64 0] 3)).alloc (.cells #[.int .i64 (T : Int)] 3)).alloc (.cells #[.int .i64 (S : Int)] 3)).alloc (.cells #[.int .i64 ((Q - 1 : Nat) : Int)] 3)).drew (w.heap.size + 1 + 1 + 1) 3 (.int .i64 (S : Int)) := bS2'
    have bC3 : Boxed (((((w.alloc (.cells #[.int .i64 (S : Int)] 3)).alloc (.cells #[.int .i64 0] 3)).alloc (.cells #[.int .i64 (T : Int)] 3)).alloc (.cells #[.int .i64 (S : Int)] 3)).alloc (.cells #[.int .i64 ((Q - 1 : Nat) : Int)] 3)).drew (w.heap.size + 1 + 1 + 1 + 1) 3 (.int .i64 ((Q - 1 : Nat) : Int)) := bC
    clear bS bP bT bS2 bC bS' bP' bT' bS2' hB0
    generalize (((((w.alloc (.cells #[.int .i64 (S : Int)] 3)).alloc (.cells #[.int .i64 0] 3)).alloc (.cells #[.int .i64 (T : Int)] 3)).alloc (.cells #[.int .i64 (S : Int)] 3)).alloc (.cells #[.int .i64 ((Q - 1 : Nat) : Int)] 3)).drew = W5 at bS3 bP3 bT3 bS4 bC3 hB1 hsz ⊢
    refine wpIn_rangeFunc_ownG (F := Fence.wide) rfl (by omega) (gf := 55) (lb := #[.pointer (some ⟨w.heap.size + 1 + 1 + 1, 0, none⟩), .pointer (some ⟨w.heap.size + 1 + 1 + 1 + 1, 0, none⟩), .pointer (some ⟨w.heap.size + 1 + 1, 0, none⟩)]) rfl trivial (enters_of Try.func55 (by kernel_rfl) rfl)
      (reg_stops 4 (by omega) (w.heap.size + 1 + 1) (w.heap.size + 1 + 1 + 1) (w.heap.size + 1 + 1 + 1 + 1) T S (Q - 1) d hT hT2 HS.out hS1 (by rw [← HQ.out]; exact hS2) (by omega) W5 bT3 bS4 bC3) keepsBox_t (keepsBox_b (by omega)) (Below.refl _ _) (fun _ => rfl)
      (fun (pre : List (Int × Int)) W => (((∀ p ∈ pre, p.2 ≠ (S : Int)) ∧ Boxed W (w.heap.size + 1) 3 (.int .i64 (pre.length : Int))) ∧ (Boxed W w.heap.size 3 (.int .i64 (S : Int)) ∧ Boxed W (w.heap.size + 1 + 1) 3 (.int .i64 (T : Int)))) ∧ Below w.heap.size w W)
      (fun c (pre : List (Int × Int)) W => ((c = .exit 0 ∧ ∃ ini last, pre = ini ++ [last] ∧ (∀ p ∈ ini, p.2 ≠ (S : Int)) ∧ last.2 = (S : Int)) ∧ Boxed W (w.heap.size + 1) 3 (.int .i64 (pre.length : Int))) ∧ Below w.heap.size w W)
      (OwnFrom.and (OwnFrom.and (OwnFrom.and (ownFrom_pure _ _) (Own.from (boxed_own _ _ _) _)) (OwnFrom.and (Own.from (boxed_own _ _ _) _) (Own.from (boxed_own _ _ _) _))) (ownFrom_below (Nat.le_refl _) (by omega)))
      (fun c => OwnFrom.and (OwnFrom.and (ownFrom_pure _ _) (Own.from (boxed_own _ _ _) _)) (ownFrom_below (Nat.le_refl _) (by omega)))
      ⟨⟨⟨by simp, bP3⟩, bS3, bT3⟩, hB1⟩
      (fun x => { tmps := #[.int .i64 (T : Int), .int .i64 (S : Int), undef, .pointer (some ⟨w.heap.size, 0, none⟩), .int .i64 0, .pointer (some ⟨w.heap.size + 1, 0, none⟩), undef, .int .i64 x.2,
      .int .i64 (T : Int), .int .i64 (S : Int), .bool true, .bool false, .int .i64 (T : Int), .int .i64 (S : Int), .int .i64 (T : Int), .int .i64 (d : Int), .int .i64 (Q : Int), .int .i64 ((Q - 1 : Nat) : Int),
      .func (.func 55) #[] #[.pointer (some ⟨w.heap.size + 1 + 1 + 1, 0, none⟩), .pointer (some ⟨w.heap.size + 1 + 1 + 1 + 1, 0, none⟩), .pointer (some ⟨w.heap.size + 1 + 1, 0, none⟩)], .int .i64 x.1, .int .i64 x.2, undef, undef, undef, undef, undef, undef], defers := [] }) ?assign ?body ?done ?stop
    case assign =>
      intro l x W K hK
      gi_wp2
      exact hK
    case body =>
      rintro l pre x W ⟨⟨⟨hne, hbP⟩, hbS, hbT⟩, hB⟩ hlt
      have hcP := hbP.cell
      have hfP := hbP.frozen
      have hcS := hbS.cell
      have hbS1 := hbS.other (B' := w.heap.size + 1) (by omega) (.int .i64 ((pre.length : Int) + 1))
      have hbT1 := hbT.other (B' := w.heap.size + 1) (by omega) (.int .i64 ((pre.length : Int) + 1))
      have hcS1 := hbS1.cell
      have hbP1 := hbP.set (.int .i64 ((pre.length : Int) + 1))
      gi_wp2
      · rename_i hx
        exact ⟨(KeepsOthers.setCell _ _ _).from _, ⟨⟨rfl, pre, x, rfl, hne, eq_of_beq hx⟩, by simpa using hbP1⟩, hB.setCell (p := ⟨w.heap.size + 1, 0, none⟩) (by simp) _⟩
      · rename_i hx
        exact ⟨(KeepsOthers.setCell _ _ _).from _, hbT1.cell.trans hbT.cell.symm, ⟨⟨fun p hp => (List.mem_append.1 hp).elim (hne p) (fun e e' => by simp at e; subst e; simp [e'] at hx), by simpa using hbP1⟩, hbS1, hbT1⟩, hB.setCell (p := ⟨w.heap.size + 1, 0, none⟩) (by simp) _⟩
    case done =>
      rintro D ys W hD rfl ⟨⟨⟨hne, hbP⟩, hbS, hbT⟩, hB⟩ hK
      have hp1 := hP.pos
      refine absurd ?_ (hne (regAt T S (P - 1)) (regAt_mem (by omega)))
      simp only [regAt, show P - 1 + 1 = P by omega, hP.back]
    case stop =>
      rintro D c pre W hD ⟨k, hk, rfl⟩ ⟨⟨⟨rfl, ini, last, e1, e2, e3⟩, hbP⟩, hB⟩ hK
      have hcP := hbP.cell
      have hkP : k = P := (per_of_stop e1 e2 e3).unique hP
      rw [regUpto_length, hkP] at hcP
      clear e1 e2 e3
      gi_wp2
      refine ⟨by simp, .inl ⟨_, _, rfl, run_takeDeferred hK, ?_⟩⟩
      exact ⟨_, results_tmp rfl _ _ _, rfl, hB.trans (belowK_b (w := w) (Nat.le_refl _) W D _ _ (by omega) hK rfl rfl)⟩
/-- What ShiftPeriod answers: n is the period; or the register is not valid, and n is 0. -/
def PerOr (t s : Int) (n : Nat) : Prop := (regOk t s = true ∧ IsPer t.toNat s.toNat n ∧ n ≤ 2 ^ deg t - 1) ∨ (regOk t s = false ∧ n = 0)
theorem perOr_ex (t s : Int) : ∃ n, PerOr t s n := by
  cases hok : regOk t s
  · exact ⟨0, .inr ⟨hok, rfl⟩⟩
  · obtain ⟨T, S, rfl, rfl, hT, hS1, hS, _⟩ := regOk_nat hok
    obtain ⟨n, h1, h2⟩ := per_ex hT hS hS1
    exact ⟨n, .inl ⟨hok, h2, h1⟩⟩
theorem shiftPeriod_any (t s : Int) (n : Nat) (h : PerOr t s n) (w : World) : Calls Try.prog 18 #[.int .i64 t, .int .i64 s] w fun e w' => e = .returned (.int .i64 (n : Int)) ∧ Below w.heap.size w w' := by
  rcases h with ⟨hok, hp, hn⟩ | ⟨hok, rfl⟩
  · obtain ⟨T, S, rfl, rfl, hT, hS1, hS, hT2, _⟩ := regOk_nat hok
    exact callsIn_wide.1 (shiftPeriod_in T S n (deg (T : Int)) rfl hT hT2 hS hS1 (pow_degR (regOk_parts hok).1) hp hn hok w)
  · have hrv := fun W => registerValid_any t s W
    rw [hok] at hrv
    have HC := Lib.hid hrv
    clear hrv hok
    go_enter Try.func18, Try.ntmps18
    go_wp2_with (go_at_call 38; refine (HC.out _).mono ?_; rintro e w' ⟨rfl, rfl⟩)
    go_ret
    exact ⟨rfl, (Below.refl _ _).alloc (Nat.le_refl _) _⟩
end Go.Proofs.Ytamfjmfffpdcfaa
