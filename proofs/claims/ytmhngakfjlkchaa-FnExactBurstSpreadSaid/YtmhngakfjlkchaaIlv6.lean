/-
  What the model of BurstSpread answers, for every four numbers. No condition.
-/
import Derived.Test.YtmhngakfjlkchaaIlv5
namespace Go.Proofs.Ytmhngakfjlkchaa
open Go.RowKit

theorem l1In_side (r : Int) (w : World) (b : Bool) (h : side8 r = b) : Calls Try.prog 38 #[.int .i64 r, .int .i64 1, .int .i64 32] w fun e w' => e = .returned (.bool b) ∧ w = w' := by
  subst h; exact l1In_any r 1 32 w
theorem row_cr8 {wr : World} {b t R A m q : Nat} (h : wr.rowIs b t R (fun j => .int .i64 ((cr8 R A j m : Nat) : Int))) (hq : q = (A + m) % R) (v : Nat) (hv : v = cr8 R A q m) :
    (wr.setCell ⟨b, q, none⟩ (.int .i64 ((v : Int) + 1))).rowIs b t R (fun j => .int .i64 ((cr8 R A j (m + 1) : Nat) : Int)) :=
  (h.set q (.int .i64 ((v : Int) + 1))).congr fun j _ => by
    by_cases e : j = q
    · subst e
      rw [if_pos rfl, cr8, if_pos hq.symm, hv]
      rfl
    · rw [if_neg e, cr8, if_neg (fun h => e (by rw [hq, h]))]
      rfl
theorem max_form8 {U v X : Nat} (h : max U (v + 1) = X) : Value.int .i64 (if (U : Int) < (v : Int) + 1 then (v : Int) + 1 else (U : Int)) = .int .i64 (X : Int) := by
  congr 1
  split <;> omega
set_option maxHeartbeats 2000000 in
theorem specSpread8_any (r c a n : Int) (w : World) :
    Calls Try.prog 20 #[.int .i64 r, .int .i64 c, .int .i64 a, .int .i64 n] w fun e w' => e = .returned (.int .i64 (brOr r c a n)) ∧ Below w.heap.size w w' := by
  cases hr : side8 r
  · have HR := Lib.hid (l1In_side r w false hr)
    have HE := Lib.hid (brOr_no (brOk_r (c := c) (a := a) (n := n) hr))
    clear hr
    go_enter Try.func20, Try.ntmps20
    go_wp2_with (go_at_call 38; refine HR.out.mono ?_; rintro e w1 ⟨rfl, rfl⟩)
    go_ret
    exact ⟨ret_int HE.out.symm, Below.refl _ _⟩
  · have HR := Lib.hid (l1In_side r w true hr)
    cases hc : side8 c
    · have HC := Lib.hid (l1In_side c w false hc)
      have HE := Lib.hid (brOr_no (brOk_c (r := r) (a := a) (n := n) hc))
      clear hr hc
      go_enter Try.func20, Try.ntmps20
      go_wp2_with (first
        | (go_at_call 38; ((with_reducible refine HR.out.mono ?_); rintro e w1 ⟨rfl, rfl⟩))
        | (go_at_call 38; ((with_reducible refine HC.out.mono ?_); rintro e w1 ⟨rfl, rfl⟩)))
      go_ret
      exact ⟨ret_int HE.out.symm, Below.refl _ _⟩
    · have HC := Lib.hid (l1In_side c w true hc)
      obtain ⟨R, rfl⟩ := Int.eq_ofNat_of_zero_le (show 0 ≤ r by have := side8_yes hr; omega)
      obtain ⟨C, rfl⟩ := Int.eq_ofNat_of_zero_le (show 0 ≤ c by have := side8_yes hc; omega)
      obtain ⟨N, hN⟩ : ∃ N, N = R * C := ⟨_, rfl⟩
      obtain ⟨⟨hR1, hR2⟩, ⟨hC1, hC2⟩, hN2⟩ := side_mul hr hc hN
      have hok := brOk_eq (a := a) (n := n) hr hc hN
      have r1 : IntKind.i64.wrap ((R : Int) * (C : Int)) = (N : Int) := by rw [← Int.natCast_mul, ← hN]; exact wrap8 (by omega)
      have r1' : wrap64 ((R : Int) * (C : Int)) = (N : Int) := by rw [← Int.natCast_mul, ← hN]; exact wrap8' (by omega)
      have HN := Lib.hid hN
      have hin := l1In_any a 0 (N : Int) w
      clear hr hc hN
      cases hb : brOk R C a n
      · have HE := Lib.hid (brOr_no hb)
        rw [hb] at hok
        have hbad := of_decide_eq_false hok.symm
        clear hok hb
        have hcase : n < 0 ∨ (0 ≤ n ∧ ¬ (0 ≤ a ∧ a ≤ (N : Int))) ∨ (0 ≤ n ∧ (0 ≤ a ∧ a ≤ (N : Int)) ∧ (N : Int) - a < n) := by omega
        clear hbad
        rcases hcase with h | ⟨h, h2⟩ | ⟨h, h2, h4⟩
        · clear hin
          go_enter Try.func20, Try.ntmps20
          go_wp2_with (first
            | (go_at_call 38; ((with_reducible refine HR.out.mono ?_); rintro e w1 ⟨rfl, rfl⟩))
            | (go_at_call 38; ((with_reducible refine HC.out.mono ?_); rintro e w1 ⟨rfl, rfl⟩)))
          go_ret
          exact ⟨ret_int HE.out.symm, Below.refl _ _⟩
        · have e : (decide ((0 : Int) ≤ a) && decide (a ≤ (N : Int))) = false := by
            rw [← Bool.not_eq_true, Bool.and_eq_true, decide_eq_true_iff, decide_eq_true_iff]; exact h2
          rw [e] at hin
          have HI := Lib.hid hin
          clear hin e h2
          go_enter Try.func20, Try.ntmps20
          go_wp2_with (first
            | (go_at_call 38; ((with_reducible refine HR.out.mono ?_); rintro e w1 ⟨rfl, rfl⟩))
            | (go_at_call 38; ((with_reducible refine HC.out.mono ?_); rintro e w1 ⟨rfl, rfl⟩))
            | (go_at_call 38; ((with_reducible refine HI.out.mono ?_); rintro e w1 ⟨rfl, rfl⟩)))
          go_ret
          exact ⟨ret_int HE.out.symm, Below.refl _ _⟩
        · have e : (decide ((0 : Int) ≤ a) && decide (a ≤ (N : Int))) = true := by
            rw [Bool.and_eq_true, decide_eq_true_iff, decide_eq_true_iff]; exact h2
          rw [e] at hin
          have HI := Lib.hid hin
          obtain ⟨ha0, ha1⟩ := h2
          clear hin e
          go_enter Try.func20, Try.ntmps20
          go_wp2_with (first
            | (go_at_call 38; ((with_reducible refine HR.out.mono ?_); rintro e w1 ⟨rfl, rfl⟩))
            | (go_at_call 38; ((with_reducible refine HC.out.mono ?_); rintro e w1 ⟨rfl, rfl⟩))
            | (go_at_call 38; ((with_reducible refine HI.out.mono ?_); rintro e w1 ⟨rfl, rfl⟩)))
          go_ret
          exact ⟨ret_int HE.out.symm, Below.refl _ _⟩
      · obtain ⟨R', C', A, M, e1, e2, rfl, rfl, _, _, hle⟩ := brOk_parts hb
        obtain rfl : R = R' := by omega
        obtain rfl : C = C' := by omega
        rw [← HN.out] at hle
        have HE := Lib.hid (brOr_yes hb)
        have e : (decide ((0 : Int) ≤ (A : Int)) && decide ((A : Int) ≤ (N : Int))) = true := by
          rw [Bool.and_eq_true, decide_eq_true_iff, decide_eq_true_iff]; omega
        rw [e] at hin
        have HI := Lib.hid hin
        have hmk := run_make_row' (P := Try.prog) 23 3 (.int .i64 0) 8 Try.underlying23 Try.infoInt rfl .i64 .i64 R (by omega) (by omega)
        have z3 : decide ((M : Int) < 0) = false := by simp
        have z4 : decide ((N : Int) - (A : Int) < (M : Int)) = false := by simp; omega
        clear hok hb e1 e2 hin e
        go_enter Try.func20, Try.ntmps20
        go_wp2_with (first
          | (go_at_call 38; ((with_reducible refine HR.out.mono ?_); rintro e w1 ⟨rfl, rfl⟩))
          | (go_at_call 38; ((with_reducible refine HC.out.mono ?_); rintro e w1 ⟨rfl, rfl⟩))
          | (go_at_call 38; ((with_reducible refine HI.out.mono ?_); rintro e w1 ⟨rfl, rfl⟩)))
        clear r1 r1' HR HC HI z3 z4 hmk
        go_loopw [10, 11] (fun s i wr => ∃ k m : Nat, (k = A + m ∧ m ≤ M) ∧ i = .int .i64 (k : Int) ∧ s = .int .i64 ((up8 R m : Nat) : Int) ∧
            wr.rowIs w.heap.size 3 R (fun j => .int .i64 ((cr8 R A j m : Nat) : Int)) ∧ Below w.heap.size w wr) (fun _ i _ => A + M - (intOf i).toNat)
        case atStart =>
          refine ⟨A, 0, ⟨rfl, Nat.zero_le _⟩, rfl, by rw [up8_zero hR1]; rfl, ?_, (Below.refl _ _).alloc (Nat.le_refl _) _⟩
          exact (World.rowIs_made w (.int .i64 0) R 3).congr (by intro j hj; rfl)
        case round =>
          obtain ⟨k, m, ⟨hkm, hm⟩, rfl, rfl, hrow, hbel⟩ := hrel
          by_cases hlt : k < A + M
          · obtain ⟨q, hq⟩ : ∃ q, q = k % R := ⟨_, rfl⟩
            have hqR : q < R := by rw [hq]; exact Nat.mod_lt _ hR1
            obtain ⟨v, hv⟩ : ∃ v, v = m / R := ⟨_, rfl⟩
            have hvc : v = cr8 R A q m := by rw [hv, hq, hkm, cr8_next hR1]
            have hvm : v ≤ m := by rw [hv]; exact Nat.div_le_self _ _
            obtain ⟨U, hU⟩ : ∃ U, U = up8 R m := ⟨_, rfl⟩
            have hUm : U ≤ m := by rw [hU]; exact up8_bound hR1 m
            have hst := up8_step hR1 m
            rw [← hU, ← hv] at hst
            rw [← hU]
            have hcv : wr.cell? ⟨w.heap.size, q, none⟩ = some (.int .i64 (v : Int)) := by rw [hrow.cell hqR, ← hvc]
            have hf := hrow.frozen q
            have H2 := row_cr8 hrow (by rw [hq, hkm]) v hvc
            have hc2 := H2.cell hqR
            rw [cr8, if_pos (by rw [hq, hkm]), ← hvc] at hc2
            have HS := Lib.hid H2
            have HC2 : Hid ((wr.setCell ⟨w.heap.size, q, none⟩ (.int .i64 ((v : Int) + 1))).cell? ⟨w.heap.size, q, none⟩ = some (.int .i64 ((v : Int) + 1))) := hc2
            have HB := Lib.hid (hbel.setCell (p := ⟨w.heap.size, q, none⟩) (Nat.le_refl _) (.int .i64 ((v : Int) + 1)))
            have HSt := Lib.hid hst
            have HK := Lib.hid (show k + 1 = A + (m + 1) ∧ m + 1 ≤ M from ⟨by omega, by omega⟩)
            have hz0 : ¬ R = 0 := by omega
            have hz : ((R : Int) == 0) = false := by rw [beq_eq_false_iff_ne]; omega
            have r2 : (k : Int).tmod (R : Int) = (q : Int) := by rw [Int.tmod_eq_emod_of_nonneg (Int.natCast_nonneg _), hq]; rfl
            have r2' : (k : Int) % (R : Int) = (q : Int) := by rw [hq]; rfl
            clear hrow hbel hq hv hvc hU hst H2 hc2 hkm
            go_wp2
            go_region
            have c5 : ((wr.setCell ⟨w.heap.size, q, none⟩ (.int .i64 ((v : Int) + 1))).drew).cell? ⟨w.heap.size, q, none⟩ = some (.int .i64 ((v : Int) + 1)) := HC2.out
            have S5 : Hid (((wr.setCell ⟨w.heap.size, q, none⟩ (.int .i64 ((v : Int) + 1))).drew).rowIs w.heap.size 3 R (fun j => .int .i64 ((cr8 R A j (m + 1) : Nat) : Int))) := HS.out
            have B5 : Hid (Below w.heap.size w ((wr.setCell ⟨w.heap.size, q, none⟩ (.int .i64 ((v : Int) + 1))).drew)) := HB.out.drew
            clear HS HB HC2 hcv hf
            generalize (wr.setCell ⟨w.heap.size, q, none⟩ (.int .i64 ((v : Int) + 1))).drew = W5 at *
            go_wp2
            go_roundw
            case rel => exact ⟨k + 1, m + 1, HK.out, by go_num, max_form8 HSt.out, S5.out, B5.out⟩
            case measure => simp [intOf]; omega
          · obtain rfl : m = M := by omega
            have HBe := Lib.hid hbel
            clear hbel hrow
            go_wp2
            go_ret
            exact ⟨ret_int HE.out.symm, HBe.out⟩
end Go.Proofs.Ytmhngakfjlkchaa
