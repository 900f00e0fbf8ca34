/-
  What the transforms of arrays in both directions and the product of two arrays, place by place, answer. Condition: sixteen numbers 0 to 256.
-/
import Derived.Test.YtkigjnjbjbnidaaTr4
import Derived.StillTailTactics
import Derived.StillTail
namespace Go.Proofs.Ytkigjnjbjbnidaa
open Go.RowKit

/-- A list that is being changed: its first k numbers are done. -/
def mixL (f g : Nat → Int) (k : Nat) : List Int := l16 fun i => if i < k then f i else g i
theorem mixL_len (f g : Nat → Int) (k : Nat) : (mixL f g k).length = 16 := l16_length _
theorem mixL_el (f g : Nat → Int) {k : Nat} (hk : k < 16) : el (mixL f g k) k = g k := by
  unfold mixL
  rw [l16_el hk, if_neg (Nat.lt_irrefl _)]
theorem mixL_set (f g : Nat → Int) (k : Nat) (hk : k < 16) : (mixL f g k).set k (f k) = mixL f g (k + 1) := by
  unfold mixL
  refine l16_eq (by rw [List.length_set, l16_length]) fun i hi => ?_
  rw [el_set, l16_length]
  by_cases e : i = k
  · subst e; rw [if_pos ⟨rfl, hk⟩, if_pos (by omega)]
  · rw [if_neg (fun h => e h.1), l16_el hi]
    by_cases h : i < k
    · rw [if_pos h, if_pos (by omega)]
    · rw [if_neg h, if_neg (by omega)]
theorem mixL_start {f g : Nat → Int} {xs : List Int} (hl : xs.length = 16) (h : ∀ k, k < 16 → el xs k = g k) : xs = mixL f g 0 := by
  unfold mixL
  exact l16_eq hl fun k hk => by rw [h k hk, if_neg (Nat.not_lt_zero _)]
theorem mixL_done (f g : Nat → Int) : mixL f g 16 = l16 f := by
  unfold mixL
  exact l16_congr fun k hk => by rw [if_pos hk]
def bkF (zs : List Int) (k : Nat) : Int := el zs k * 241 % 257
def tmF (xs ys : List Int) (k : Nat) : Int := el xs k * el ys k % 257
def bkL (xs : List Int) : List Int := l16 (bkF (fftL 129 xs))
def tmL (xs ys : List Int) : List Int := l16 (tmF xs ys)
theorem l16_in {f : Nat → Int} (h : ∀ k, k < 16 → 0 ≤ f k ∧ f k < 257) : RIn (l16 f) := fun k => by
  by_cases hk : k < 16
  · rw [l16_el hk]; exact h k hk
  · rw [el_out (by rw [l16_length]; omega)]; decide
theorem tmL_in (xs ys : List Int) : RIn (tmL xs ys) := l16_in fun _ _ => ⟨Int.emod_nonneg _ (by decide), Int.emod_lt_of_pos _ (by decide)⟩
theorem bkL_in (xs : List Int) : RIn (bkL xs) := l16_in fun _ _ => ⟨Int.emod_nonneg _ (by decide), Int.emod_lt_of_pos _ (by decide)⟩
theorem still_load16 {ops : Array Oper} {w : World} {Q : Act → Prop} {a : Act} {o : Oper} {rest : List Oper} (x : Operand) (g : Nat) (xs : List Int) (hg : A16 w g xs)
    (hw : Region.wanted o (yielded ops a.tmps) = true) (ho : o.op = .load 40 x) (hx : a.eval x = .pointer (some ⟨g, 0, none⟩))
    (h : wpStill Try.prog ops w Q rest (a.put o.dst (.agg (rw16 xs)))) : wpStill Try.prog ops w Q (o :: rest) a := by
  refine wpStill_step fun K hK => ?_
  rw [if_pos hw]
  unfold Oper.still execOp
  simp only [ho, hx, Instr.loadAt, Instr.sureAddr, Sem.run_bind, Sem.run_pure, Result.andThen_ok, run_loadVar_row w g 40 40 (rw16 xs) (0, 0) _ hg.1 Try.underlying40 rfl (by rw [infoPts, rw16_size, hg.2]), Oper.stillUpon_value]
  exact hK _ h

set_option maxHeartbeats 1000000 in
theorem forward_any (xs : List Int) (w : World) (hl : xs.length = 16) (hin : RIn xs) :
    Calls Try.prog 31 #[.agg (rw16 xs)] w fun e w' => e = .returned (.agg (rw16 (fftL 2 xs))) ∧ Below w.heap.size w w' := by
  have HN2 : Hid (A16 ((w.alloc (.cells (rw16 xs) 40)).alloc (.cells (rw16 z16) 40)) w.heap.size xs ∧ A16 ((w.alloc (.cells (rw16 xs) 40)).alloc (.cells (rw16 z16) 40)) (w.heap.size + 1) z16) := ⟨⟨heap_prev2 _ _ _, hl⟩, ⟨heap_last2 _ _ _, z16_len⟩⟩
  have HB := Lib.hid ((alloc_belowT w (.cells (rw16 xs) 40)).trans ((alloc_belowT (w.alloc (.cells (rw16 xs) 40)) (.cells (rw16 z16) 40)).mono (by simp)))
  have HT := Lib.hid (fun W => transform_any xs 2 W hl hin res_in)
  have HR := Lib.hid (fun W => (transformRoot_any W).mono (R' := fun e w' => e = .returned (.int .i64 2) ∧ w' = W) (by rintro e w' ⟨rfl, rfl⟩; exact ⟨rfl, rfl⟩))
  have HL := Lib.hid (fftL_len 2 xs)
  clear hl hin
  rw [← z16_row] at HN2 HB
  go_enter Try.func31, Try.ntmps31
  go_wp2
  generalize (w.alloc (.cells (rw16 xs) 40)).alloc (.cells #[.int .i64 0, .int .i64 0, .int .i64 0, .int .i64 0, .int .i64 0, .int .i64 0, .int .i64 0, .int .i64 0, .int .i64 0, .int .i64 0, .int .i64 0, .int .i64 0, .int .i64 0, .int .i64 0, .int .i64 0, .int .i64 0] 40) = W0 at *
  refine wp_region_still_tail 2 (by kernel_rfl) (by kernel_rfl) ?_
  simp only [List.take_succ_cons, List.take_zero, List.drop_succ_cons, List.drop_zero]
  refine still_load16 (.tmp 1) w.heap.size xs HN2.out.1 (by kernel_rfl) rfl rfl ?_
  still_call (HR.out _)
  repeat still_step
  refine wpStill_nil ?_
  change wpList _ _ _ _ _ W0.drew
  have A1 : Hid (A16 W0.drew (w.heap.size + 1) z16) := HN2.out.2
  have B1 := Lib.hid HB.out.drew
  clear HN2 HB
  generalize W0.drew = W1 at *
  go_wp2_with (first | (go_at_call 43; (with_reducible refine (HT.out _).mono ?_); rintro e w2 ⟨rfl, hb2⟩; have A2 := Lib.hid (A1.out.next hb2); have B2 := Lib.hid (Below.next B1.out (Nat.le_refl _) hb2); clear hb2) | (refine store16 (.tmp 2) (.tmp 5) (w.heap.size + 1) z16 (fftL 2 xs) A2.out HL.out rfl rfl rfl rfl ?_; intro W2 hW2; have P1 := Lib.hid (put16 A2.out hW2 HL.out); have B3 := Lib.hid (below_put B2.out hW2 (by omega)); clear hW2))
  refine bodyPost_ret (results16 rfl _ _ (w.heap.size + 1) _ rfl P1.out) rfl ?_
  exact ⟨rfl, B3.out⟩
set_option maxHeartbeats 1000000 in
theorem times_any (xs ys : List Int) (w : World) (hl : xs.length = 16) (hin : RIn xs) (hl' : ys.length = 16) (hin' : RIn ys) :
    Calls Try.prog 36 #[.agg (rw16 xs), .agg (rw16 ys)] w fun e w' => e = .returned (.agg (rw16 (tmL xs ys))) ∧ Below w.heap.size w w' := by
  have HN : Hid (A16 (((w.alloc (.cells (rw16 xs) 40)).alloc (.cells (rw16 ys) 40)).alloc (.cells (rw16 z16) 40)) w.heap.size (mixL (tmF xs ys) (el xs) 0) ∧ A16 (((w.alloc (.cells (rw16 xs) 40)).alloc (.cells (rw16 ys) 40)).alloc (.cells (rw16 z16) 40)) (w.heap.size + 1) ys ∧ A16 (((w.alloc (.cells (rw16 xs) 40)).alloc (.cells (rw16 ys) 40)).alloc (.cells (rw16 z16) 40)) (w.heap.size + 1 + 1) z16) := by
    rw [← mixL_start hl (fun _ _ => rfl)]
    exact ⟨⟨heap_prev3 _ _ _ _, hl⟩, ⟨heap_mid3 _ _ _ _, hl'⟩, ⟨heap_last3 _ _ _ _, z16_len⟩⟩
  have HB : Hid (Below w.heap.size w (((w.alloc (.cells (rw16 xs) 40)).alloc (.cells (rw16 ys) 40)).alloc (.cells (rw16 z16) 40))) := (((Below.refl _ _).alloc (Nat.le_refl _) _).alloc (by simp) _).alloc (by simp; omega) _
  have HI := Lib.hid (fun k W (hk : k < 16) => index16 ys k W hl' hk)
  have HX := Lib.hid hin
  have HY := Lib.hid hin'
  clear hl hl' hin hin'
  rw [← z16_row] at HN HB
  go_enter Try.func36, Try.ntmps36
  go_wp2_with (refine load16 (.tmp 3) (w.heap.size + 1) ys HN.out.2.1 rfl rfl rfl ?_)
  go_loopw [8] (fun i wr => ∃ k : Nat, k ≤ 16 ∧ i = .int .i64 k ∧ A16 wr w.heap.size (mixL (tmF xs ys) (el xs) k) ∧ A16 wr (w.heap.size + 1 + 1) z16 ∧ Below w.heap.size w wr) (fun i _ => 16 - (intOf i).toNat)
  case atStart => exact ⟨0, Nat.zero_le _, rfl, HN.out.1, HN.out.2.2, HB.out⟩
  case round =>
    obtain ⟨k, hk, rfl, hrow, hzr, hbel⟩ := hrel
    have HR := Lib.hid hrow
    have HZ := Lib.hid hzr
    have HBe := Lib.hid hbel
    clear hrow hzr hbel
    by_cases hlt : k < 16
    · have hi := fun W => HI.out k W hlt
      have c0 := HR.out.cell hlt
      have f0 := HR.out.frozen k
      rw [mixL_el _ _ hlt] at c0
      have HS := HR.out.set k (tmF xs ys k)
      rw [mixL_set _ _ k hlt] at HS
      obtain ⟨q, v, hq, r1, r1', r2, hv, _⟩ := mm_nums (HX.out k) (HY.out k)
      rw [show tmF xs ys k = v from hv.symm] at HS
      have HS := Lib.hid HS
      have HZ2 := Lib.hid (HZ.out.other (c := w.heap.size) (v := .int .i64 v) k (by omega))
      have HB2 := Lib.hid (HBe.out.setCell (p := ⟨w.heap.size, k, none⟩) (Nat.le_refl _) (.int .i64 v))
      rw [hq] at r1 r1' r2
      clear hq hv
      generalize el xs k = a at *
      generalize el ys k = b at *
      go_wp2
      go_roundw
      case rel => exact ⟨k + 1, by omega, by go_num, HS.out, HZ2.out, HB2.out⟩
      case measure => simp [intOf]; omega
    · obtain rfl : k = 16 := by omega
      have HD := Lib.hid (show rw16 (mixL (tmF xs ys) (el xs) 16) = rw16 (tmL xs ys) by rw [mixL_done]; rfl)
      go_wp2_with (first | (refine load16 (.tmp 2) w.heap.size (mixL (tmF xs ys) (el xs) 16) HR.out rfl rfl rfl ?_) | (refine store16 (.tmp 4) (.tmp 21) (w.heap.size + 1 + 1) z16 (mixL (tmF xs ys) (el xs) 16) HZ.out (mixL_len _ _ _) rfl rfl rfl rfl ?_; intro W2 hW2; have P1 := Lib.hid (put16 HZ.out hW2 (mixL_len _ _ _)); have B3 := Lib.hid (below_put HBe.out hW2 (by omega)); clear hW2))
      refine bodyPost_ret (results16 rfl _ _ (w.heap.size + 1 + 1) _ rfl P1.out) rfl ?_
      exact ⟨by rw [HD.out], B3.out⟩
end Go.Proofs.Ytkigjnjbjbnidaa
