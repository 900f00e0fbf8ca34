/-
  What BurstSpread answers, for every four numbers. No condition.
-/
import Derived.Test.YtmhngakfjlkchaaIlv4
namespace Go.Proofs.Ytmhngakfjlkchaa
open Go.RowKit

theorem brOk_r {r c a n : Int} (h : side8 r = false) : brOk r c a n = false := by
  simp only [brOk, decide_eq_false_iff_not]
  rcases side8_no h with h | h <;> exact fun h2 => h (by omega)
theorem brOk_c {r c a n : Int} (h : side8 c = false) : brOk r c a n = false := by
  simp only [brOk, decide_eq_false_iff_not]
  rcases side8_no h with h | h <;> exact fun h2 => h (by omega)
theorem brOk_eq {R C N : Nat} {a n : Int} (h1 : side8 R = true) (h2 : side8 C = true) (hN : N = R * C) : brOk R C a n = decide ((0 ≤ a ∧ a ≤ (N : Int)) ∧ 0 ≤ n ∧ n ≤ (N : Int) - a) := by
  have e1 := side8_yes h1
  have e2 := side8_yes h2
  rw [brOk, ← Int.natCast_mul, ← hN, Bool.eq_iff_iff, decide_eq_true_iff, decide_eq_true_iff]
  constructor
  · exact fun h => ⟨h.2.2.1, h.2.2.2⟩
  · exact fun h => ⟨e1, e2, h.1, h.2⟩
theorem side_mul {R C N : Nat} (h1 : side8 R = true) (h2 : side8 C = true) (hN : N = R * C) : (1 ≤ R ∧ R ≤ 32) ∧ (1 ≤ C ∧ C ≤ 32) ∧ N ≤ 1024 := by
  have e1 := side8_yes h1
  have e2 := side8_yes h2
  have : R * C ≤ 32 * 32 := Nat.mul_le_mul (by omega) (by omega)
  refine ⟨⟨by omega, by omega⟩, ⟨by omega, by omega⟩, by omega⟩

theorem zeros32 : madeCells #[Value.int .i64 0] 32 = #[.int .i64 0, .int .i64 0, .int .i64 0, .int .i64 0, .int .i64 0, .int .i64 0, .int .i64 0, .int .i64 0, .int .i64 0, .int .i64 0, .int .i64 0, .int .i64 0, .int .i64 0, .int .i64 0, .int .i64 0, .int .i64 0, .int .i64 0, .int .i64 0, .int .i64 0, .int .i64 0, .int .i64 0, .int .i64 0, .int .i64 0, .int .i64 0, .int .i64 0, .int .i64 0, .int .i64 0, .int .i64 0, .int .i64 0, .int .i64 0, .int .i64 0, .int .i64 0] := by kernel_rfl
theorem cr8_bound (R a r : Nat) : ∀ m, cr8 R a r m ≤ m
  | 0 => Nat.le_refl _
  | m + 1 => by have := cr8_bound R a r m; rw [cr8]; split <;> omega
theorem row_cnts {wr : World} {b t R A m q : Nat} (h : wr.rowIs b t 32 (fun j => .int .i64 (el (cnts8 R A m) j))) (hq : q = (A + m) % R) :
    (wr.setCell ⟨b, q, none⟩ (.int .i64 (el (cnts8 R A m) q + 1))).rowIs b t 32 (fun j => .int .i64 (el (cnts8 R A (m + 1)) j)) :=
  (h.set q (.int .i64 (el (cnts8 R A m) q + 1))).congr fun j hj => by
    by_cases e : j = q
    · rw [e] at hj ⊢
      rw [if_pos rfl, cnts8_el hj, cnts8_el hj, cr8, if_pos hq.symm]
      rfl
    · rw [if_neg e, cnts8_el hj, cnts8_el hj, cr8, if_neg (fun h => e (by rw [hq, h]))]
      rfl
set_option maxHeartbeats 2000000 in
theorem spread8_any (r c a n : Int) (w : World) :
    Calls Try.prog 19 #[.int .i64 r, .int .i64 c, .int .i64 a, .int .i64 n] w fun e w' => e = .returned (.int .i64 (brOr r c a n)) ∧ Below w.heap.size w w' := by
  have HR := Lib.hid (fun W => tableSideValid_any r W)
  cases hr : side8 r
  · have HE := Lib.hid (brOr_no (brOk_r (c := c) (a := a) (n := n) hr))
    rw [hr] at HR
    clear hr
    go_enter Try.func19, Try.ntmps19
    go_wp2_with (go_at_call 35; refine (HR.out _).mono ?_; rintro e w1 ⟨rfl, rfl⟩)
    go_ret
    exact ⟨ret_int HE.out.symm, Below.refl _ _⟩
  · have HC := Lib.hid (fun W => tableSideValid_any c W)
    cases hc : side8 c
    · have HE := Lib.hid (brOr_no (brOk_c (r := r) (a := a) (n := n) hc))
      rw [hc] at HC
      rw [hr] at HR
      clear hr hc
      go_enter Try.func19, Try.ntmps19
      go_wp2_with (first
        | (go_at_call 35; ((with_reducible refine (HR.out _).mono ?_); rintro e w1 ⟨rfl, rfl⟩))
        | (go_at_call 35; ((with_reducible refine (HC.out _).mono ?_); rintro e w1 ⟨rfl, rfl⟩)))
      go_ret
      exact ⟨ret_int HE.out.symm, Below.refl _ _⟩
    · obtain ⟨R, rfl⟩ := Int.eq_ofNat_of_zero_le (show 0 ≤ r by have := side8_yes hr; omega)
      obtain ⟨C, rfl⟩ := Int.eq_ofNat_of_zero_le (show 0 ≤ c by have := side8_yes hc; omega)
      obtain ⟨N, hN⟩ : ∃ N, N = R * C := ⟨_, rfl⟩
      obtain ⟨⟨hR1, hR2⟩, ⟨hC1, hC2⟩, hN2⟩ := side_mul hr hc hN
      have hok := brOk_eq (a := a) (n := n) hr hc hN
      rw [hc] at HC
      rw [hr] at HR
      have r1 : IntKind.i64.wrap ((R : Int) * (C : Int)) = (N : Int) := by rw [← Int.natCast_mul, ← hN]; exact wrap8 (by omega)
      have r1' : wrap64 ((R : Int) * (C : Int)) = (N : Int) := by rw [← Int.natCast_mul, ← hN]; exact wrap8' (by omega)
      have HN := Lib.hid hN
      clear hr hc hN
      cases hb : brOk R C a n
      · have HE := Lib.hid (brOr_no hb)
        rw [hb] at hok
        have hbad := of_decide_eq_false hok.symm
        clear hok hb
        have hcase : a < 0 ∨ (0 ≤ a ∧ (N : Int) < a) ∨ (0 ≤ a ∧ a ≤ (N : Int) ∧ n < 0) ∨ (0 ≤ a ∧ a ≤ (N : Int) ∧ 0 ≤ n ∧ (N : Int) - a < n) := by omega
        clear hbad
        rcases hcase with h | ⟨h, h2⟩ | ⟨h, h2, h3⟩ | ⟨h, h2, h3, h4⟩
        all_goals
          go_enter Try.func19, Try.ntmps19
          go_wp2_with (first
            | (go_at_call 35; ((with_reducible refine (HR.out _).mono ?_); rintro e w1 ⟨rfl, rfl⟩))
            | (go_at_call 35; ((with_reducible refine (HC.out _).mono ?_); rintro e w1 ⟨rfl, rfl⟩)))
          go_ret
          exact ⟨ret_int HE.out.symm, Below.refl _ _⟩
      · obtain ⟨R', C', A, M, e1, e2, rfl, rfl, _, _, hle⟩ := brOk_parts hb
        obtain rfl : R = R' := by omega
        obtain rfl : C = C' := by omega
        rw [← HN.out] at hle
        have HE := Lib.hid (brOr_yes hb)
        have HO := Lib.hid (fun k W (hk : k < N) => rowOf_any R C k W hR1 (by omega) hC1 (by omega) (by omega) (by rw [← HN.out]; exact hk))
        have z1 : decide ((A : Int) < 0) = false := by simp
        have z2 : decide ((N : Int) < (A : Int)) = false := by simp; omega
        have z2' : decide (N < A) = false := by simp; omega
        have z3 : decide ((M : Int) < 0) = false := by simp
        have z4 : decide ((N : Int) - (A : Int) < (M : Int)) = false := by simp; omega
        clear hok hb e1 e2
        go_enter Try.func19, Try.ntmps19
        go_wp2_with (first
          | (go_at_call 35; ((with_reducible refine (HR.out _).mono ?_); rintro e w1 ⟨rfl, rfl⟩))
          | (go_at_call 35; ((with_reducible refine (HC.out _).mono ?_); rintro e w1 ⟨rfl, rfl⟩)))
        clear r1 r1' HR HC z1 z2 z2' z3 z4
        go_loopw [11] (fun i wr => ∃ k m : Nat, (k = A + m ∧ m ≤ M) ∧ i = .int .i64 (k : Int) ∧ wr.heap[w.heap.size]? = some (.cells #[.int .i64 (R : Int), .int .i64 (C : Int)] 43 (0, 0)) ∧
            wr.rowIs (w.heap.size + 1) 56 32 (fun j => .int .i64 (el (cnts8 R A m) j)) ∧ Below w.heap.size w wr) (fun i _ => A + M - (intOf i).toNat)
        case atStart =>
          refine ⟨A, 0, ⟨rfl, Nat.zero_le _⟩, rfl, (Below.heap_alloc _ _ _ (by simp)).trans (heap_alloc_last _ _), ?_, ((Below.refl _ _).alloc (Nat.le_refl _) _).alloc (by simp) _⟩
          have := World.rowIs_made (w.alloc (.cells #[.int .i64 (R : Int), .int .i64 (C : Int)] 43)) (.int .i64 0) 32 56
          rw [World.size_alloc, zeros32] at this
          exact this.congr (g := fun j => .int .i64 (el (cnts8 R A 0) j)) (by intro j hj; rw [cnts8_el hj]; rfl)
        case round =>
          obtain ⟨k, m, ⟨hkm, hm⟩, rfl, htab, hrow, hbel⟩ := hrel
          have hT : w.heap.size + 1 < wr.heap.size := hrow.lt
          by_cases hlt : k < A + M
          · have hO := HO.out k wr (by omega)
            have c0 : wr.cell? ⟨w.heap.size, 0, none⟩ = some (.int .i64 (R : Int)) := cell_of_row _ _ 0 _ _ _ htab
            have c1 : wr.cell? ⟨w.heap.size, 1, none⟩ = some (.int .i64 (C : Int)) := cell_of_row _ _ 1 _ _ _ htab
            obtain ⟨q, hq⟩ : ∃ q, q = k % R := ⟨_, rfl⟩
            rw [← hq] at hO
            have hq32 : q < 32 := by have : k % R < R := Nat.mod_lt _ hR1; omega
            obtain ⟨v, hv⟩ : ∃ v, v = el (cnts8 R A m) q := ⟨_, rfl⟩
            have hvb : 0 ≤ v ∧ v ≤ 1024 := by
              have := cr8_bound R A q m
              rw [hv, cnts8_el hq32]; omega
            obtain ⟨hv0, hv1⟩ := hvb
            have HS := Lib.hid (fun (W : World) (h : W.rowIs (w.heap.size + 1) 56 32 (fun j => .int .i64 (el (cnts8 R A m) j))) => row_cnts h (q := q) (by rw [hq, hkm]))
            rw [← hv] at HS
            have HV := Lib.hid hv
            have HO2 := Lib.hid hO
            have HT := Lib.hid htab
            have HRo := Lib.hid hrow
            have HBe := Lib.hid hbel
            have HK := Lib.hid (show k + 1 = A + (m + 1) ∧ m + 1 ≤ M from ⟨by omega, by omega⟩)
            have hwr : w.heap.size ≤ wr.heap.size := hbel.size
            clear htab hrow hbel hO hq hv hkm
            go_wp2_with (go_at_call 36; refine HO2.out.mono ?_; rintro e w2 ⟨rfl, b2⟩; have B2 := Lib.hid b2; have hr2 := HRo.out.of_block (b2.block _ hT); have hf2 := hr2.frozen q; have hcv2 := hr2.cell hq32; rw [← HV.out] at hcv2; have HR2 := Lib.hid hr2; clear b2 hr2)
            go_roundw
            case rel => exact ⟨k + 1, m + 1, HK.out, by go_num, (Below.heap_setCell _ _ _ _ (by show w.heap.size ≠ w.heap.size + 1; omega)).trans ((B2.out.block _ (by omega)).trans HT.out), HS.out _ HR2.out, (HBe.out.trans (B2.out.mono hwr)).setCell (p := ⟨w.heap.size + 1, q, none⟩) (by show w.heap.size ≤ w.heap.size + 1; omega) _⟩
            case measure => simp [intOf]; omega
          · obtain rfl : m = M := by omega
            have HBe := Lib.hid hbel
            have hM := slicesMax_any (some ⟨w.heap.size + 1, 0, none⟩) (w.heap.size + 1 + 1) 32 (cnts8 R A m) wr (ints_of_row hrow (cnts8_length _ _ _).symm (by omega)) (by rw [cnts8_length]; omega) (by rw [cnts8_length]; omega)
            rw [cnts8_length] at hM
            have HM := Lib.hid hM
            have HX := Lib.hid (fun (v : Int) (h : IsMax (cnts8 R A m) v) => cnts8_max hR1 hR2 h)
            clear hM htab hrow hbel
            go_wp2_with (go_at_call 37; refine HM.out.mono ?_; rintro e w2 ⟨⟨v, hv, rfl⟩, n2, rfl⟩; have HV := Lib.hid (HX.out v hv); clear hv)
            go_ret
            exact ⟨ret_int (HV.out.trans HE.out.symm), below_drewN HBe.out n2⟩
end Go.Proofs.Ytmhngakfjlkchaa
