/-
  The laws of FieldAdd, FieldMul, FieldInverse, of squares and of the generator, walked: they return true for every code, and write into nothing that was there. Conditions: the program's two tables lie in their variables, where they are asked.
-/
import Derived.Test.YtlaofbaglepkgaaDoorFldDraw
import Derived.Test.YtlaofbaglepkgaaDoorFld3
import Derived.Test.YtlaofbaglepkgaaDoorFldSpec
namespace Go.Proofs.YtlaofbaglepkgaaDoor
open Go.RowKit

/-- The tables lie there, and nothing that was there at first has changed. -/
def St (w0 w : World) : Prop := Tabs2 w ∧ Below w0.heap.size w0 w
theorem St.below {w0 w : World} (h : St w0 w) : Below w0.heap.size w0 w := h.2
theorem St.next {w0 w w' : World} (h : St w0 w) (hb : Below w.heap.size w w') : St w0 w' := ⟨h.1.next hb, Below.next h.2 (Nat.le_refl _) hb⟩
theorem St.drewN {w0 w : World} (h : St w0 w) (n : Nat) : St w0 (w.drewN n) := ⟨h.1, below_drewN h.2 n⟩
theorem St.first {w w' : World} (h : Tabs2 w) (hb : Below w.heap.size w w') : St w w' := ⟨h.next hb, hb⟩
theorem mul_is (a b c : Nat) (w0 w : World) (hS : St w0 w) (ha : a < 16) (hb : b < 16) (h : fmul a b = c) :
    Calls Tryd.prog 11 #[.int .i64 a, .int .i64 b] w fun e w' => e = .returned (.int .i64 (c : Int)) ∧ St w0 w' := by
  have := fieldMul_any (a : Int) (b : Int) w hS.1
  rw [mulOr_nat ha hb, h] at this
  refine this.mono ?_
  rintro e w' ⟨h1, n, rfl⟩
  exact ⟨h1, hS.drewN n⟩
theorem mul_or (a b : Int) (w0 w : World) (hS : St w0 w) :
    Calls Tryd.prog 11 #[.int .i64 a, .int .i64 b] w fun e w' => e = .returned (.int .i64 (mulOr a b)) ∧ St w0 w' := by
  refine (fieldMul_any a b w hS.1).mono ?_
  rintro e w' ⟨h1, n, rfl⟩
  exact ⟨h1, hS.drewN n⟩
theorem add_is (a b c : Nat) (w : World) (ha : a < 16) (hb : b < 16) (h : a ^^^ b = c) :
    Calls Tryd.prog 14 #[.int .i64 a, .int .i64 b] w fun e w' => e = .returned (.int .i64 (c : Int)) ∧ w = w' := by
  have := fieldAdd_any (a : Int) (b : Int) w
  rwa [addOr_nat ha hb, h] at this
theorem inv_is (a c : Nat) (w0 w : World) (hS : St w0 w) (ha : a < 16) (h : finv a = c) :
    Calls Tryd.prog 16 #[.int .i64 a] w fun e w' => e = .returned (.int .i64 (c : Int)) ∧ w = w' := by
  have := fieldInverse_any (a : Int) w hS.1
  rwa [invOr_nat ha, h] at this
theorem pow_is (a n c : Nat) (w0 w : World) (hS : St w0 w) (ha : a < 16) (hn : n ≤ 1000) (h : fpow a n = c) :
    Calls Tryd.prog 18 #[.int .i64 a, .int .i64 n] w fun e w' => e = .returned (.int .i64 (c : Int)) ∧ w = w' := by
  have := fieldPower_any (a : Int) (n : Int) w hS.1
  rwa [powOr_nat ha hn, h] at this
theorem alive_st (w0 w : World) (hS : St w0 w) : Calls Tryd.prog 13 #[] w fun e w' => e = .returned (.bool true) ∧ St w0 w' := by
  refine (alive_any w).mono ?_
  rintro e w' ⟨h1, h2⟩
  exact ⟨h1, hS.next h2⟩
theorem addOr_swap (a b : Int) : addOr b a = addOr a b := by
  unfold addOr; rw [Bool.and_comm, Nat.xor_comm]
theorem both_ok {a b : Int} : (elOk a = true ∧ elOk b = true) ∨ (addOr a b = -1 ∧ mulOr a b = -1 ∧ mulOr b a = -1) := by
  cases ha : elOk a
  · exact .inr ⟨addOr_l ha, mulOr_l ha, mulOr_r ha⟩
  · cases hb : elOk b
    · exact .inr ⟨addOr_r hb, mulOr_r hb, mulOr_l hb⟩
    · exact .inl ⟨rfl, rfl⟩
theorem xor_back (m n : Nat) : (m ^^^ n) ^^^ n = m := by rw [Nat.xor_assoc, Nat.xor_self, Nat.xor_zero]

set_option maxHeartbeats 2000000 in
theorem walkFieldMul (a : Option Addr) (c : Nat) (ds : List Int) (w : World) (hx : Ints .u8 w w.heap.size a ds) (hw : ∀ n ∈ ds, (Lit.int .u8 n).wf = true) (hc : ds.length ≤ c) (hcm : c ≤ maxLen) (hT : Tabs2 w) :
    Calls Tryd.prog 3 #[.slice a ds.length c] w fun e w' => e = .returned (.bool true) ∧ Below w.heap.size w w' := by
  have hb := isByte_of_wf hw
  clear hw
  by_cases hl : ds.length ≤ 1048576
  · go_enter Tryd.func3, Tryd.ntmps3
    go_wp2_with fail
    refine (drawFieldMul_any a c ds w hx hb hc hcm).mono ?_
    rintro e w1 ⟨x, y, hx1, hy1, rfl, b1⟩
    have S1 := Lib.hid (St.first hT b1)
    clear hx hb hc hcm b1 hx1 hy1 hT
    have h1 := mul_or x y w w1 S1.out
    have h2 := fun W => specFieldMul_any x y W
    have h3 := fun W hS => mul_or y x w W hS
    rcases both_ok (a := x) (b := y) with ⟨hx, hy⟩ | ⟨_, hn, hn'⟩
    · obtain ⟨m, rfl, hm⟩ := elOk_nat hx
      obtain ⟨n, rfl, hn⟩ := elOk_nat hy
      obtain ⟨r, hr⟩ : ∃ r, r = fmul m n := ⟨_, rfl⟩
      have hr16 : r < 16 := by rw [hr]; exact fmul_lt hm hn
      rw [mulOr_nat hm hn, ← hr] at h1 h2
      rw [mulOr_nat hn hm, fmul_comm hn hm, ← hr] at h3
      have H1 := Lib.hid h1
      have H2 := Lib.hid h2
      have H3 := Lib.hid h3
      have HR := Lib.hid hr
      have z : ((r : Int) != (r : Int)) = false := by simp
      clear h1 h2 h3 hx hy hr
      go_wp2_with fail
      refine H1.out.mono ?_
      rintro e w2 ⟨rfl, s2⟩
      have S2 := Lib.hid s2
      clear s2 S1 H1
      go_wp2_with fail
      refine (H2.out w2).mono ?_
      rintro e w' ⟨rfl, rfl⟩
      go_wp2_with fail
      refine (H3.out w2 S2.out).mono ?_
      rintro e w3 ⟨rfl, s3⟩
      have S3 := Lib.hid s3
      clear s3 S2 H2 H3
      go_wp2
      clear z
      go_loopw [6] (fun i wr => ∃ k : Nat, k ≤ 16 ∧ i = .int .i64 k ∧ St w wr) (fun i _ => 16 - (intOf i).toNat)
      case atStart => exact ⟨0, by omega, rfl, S3.out⟩
      case round =>
        obtain ⟨k, hk, rfl, s4⟩ := hrel
        have S4 := Lib.hid s4
        clear s4 S3
        by_cases hlt : k < 16
        · obtain ⟨x1, hx1⟩ : ∃ x1, fmul r k = x1 := ⟨_, rfl⟩
          obtain ⟨x2, hx2⟩ : ∃ x2, fmul n k = x2 := ⟨_, rfl⟩
          obtain ⟨x4, hx4⟩ : ∃ x4, n ^^^ k = x4 := ⟨_, rfl⟩
          obtain ⟨x5, hx5⟩ : ∃ x5, fmul m x4 = x5 := ⟨_, rfl⟩
          obtain ⟨x6, hx6⟩ : ∃ x6, fmul m k = x6 := ⟨_, rfl⟩
          have g2 : x2 < 16 := by rw [← hx2]; exact fmul_lt hn hlt
          have g4 : x4 < 16 := by rw [← hx4]; exact xor_lt hn hlt
          have g6 : x6 < 16 := by rw [← hx6]; exact fmul_lt hm hlt
          have hx3 : fmul m x2 = x1 := by rw [← hx2, ← hx1, HR.out, fmul_assoc hm hn hlt]
          have hx7 : r ^^^ x6 = x5 := by rw [← hx6, ← hx5, ← hx4, HR.out, fmul_sum hm hn hlt]
          have z1 : ((x1 : Int) != (x1 : Int)) = false := by simp
          have z2 : ((x5 : Int) != (x5 : Int)) = false := by simp
          have X1 := Lib.hid hx1
          have X2 := Lib.hid hx2
          have X3 := Lib.hid hx3
          have X4 := Lib.hid hx4
          have X5 := Lib.hid hx5
          have X6 := Lib.hid hx6
          have X7 := Lib.hid hx7
          clear hx1 hx2 hx3 hx4 hx5 hx6 hx7
          go_wp2_with fail
          refine (mul_is r k x1 w _ S4.out hr16 hlt X1.out).mono ?_
          rintro e w5 ⟨rfl, s5⟩
          have S5 := Lib.hid s5
          clear s5 S4
          go_wp2_with fail
          refine (mul_is n k x2 w _ S5.out hn hlt X2.out).mono ?_
          rintro e w6 ⟨rfl, s6⟩
          have S6 := Lib.hid s6
          clear s6 S5
          go_wp2_with fail
          refine (mul_is m x2 x1 w _ S6.out hm g2 X3.out).mono ?_
          rintro e w7 ⟨rfl, s7⟩
          have S7 := Lib.hid s7
          clear s7 S6
          go_wp2_with fail
          refine (add_is n k x4 w7 hn hlt X4.out).mono ?_
          rintro e w' ⟨rfl, rfl⟩
          go_wp2_with fail
          refine (mul_is m x4 x5 w _ S7.out hm g4 X5.out).mono ?_
          rintro e w8 ⟨rfl, s8⟩
          have S8 := Lib.hid s8
          clear s8 S7
          go_wp2_with fail
          refine (mul_is m k x6 w _ S8.out hm hlt X6.out).mono ?_
          rintro e w9 ⟨rfl, s9⟩
          have S9 := Lib.hid s9
          clear s9 S8
          go_wp2_with fail
          refine (add_is r x6 x5 w9 hr16 g6 X7.out).mono ?_
          rintro e w' ⟨rfl, rfl⟩
          go_wp2
          go_roundw
          case rel => exact ⟨k + 1, by omega, by go_num, S9.out⟩
          case measure => simp [intOf]; omega
        · have HZ := Lib.hid (fmul_zero hm hn)
          have H1 := Lib.hid (mul_is m 1 m w wr S4.out hm (by omega) (fmul_one hm))
          by_cases hm0 : m = 0
          · have z1 : ((m : Int) == 0) = true := by simp [hm0]
            have z2 : ((r : Int) == 0) = true := by rw [HR.out, HZ.out.2 (.inl hm0)]; rfl
            have z3 : ((m : Int) == (m : Int)) = true := by simp
            clear hm0
            go_wp2_with fail
            refine H1.out.mono ?_
            rintro e w5 ⟨rfl, s5⟩
            have S5 := Lib.hid s5
            clear s5
            go_wp2
            go_ret
            exact ⟨ret_bool (decide_eq_true (show (r : Int) < 16 by omega)), S5.out.below⟩
          · have z1 : ((m : Int) == 0) = false := by simp; omega
            have z3 : ((m : Int) == (m : Int)) = true := by simp
            by_cases hn0 : n = 0
            · have z2 : ((r : Int) == 0) = true := by rw [HR.out, HZ.out.2 (.inr hn0)]; rfl
              have z4 : ((n : Int) == 0) = true := by simp [hn0]
              clear hn0 hm0
              go_wp2_with fail
              refine H1.out.mono ?_
              rintro e w5 ⟨rfl, s5⟩
              have S5 := Lib.hid s5
              clear s5
              go_wp2
              go_ret
              exact ⟨ret_bool (decide_eq_true (show (r : Int) < 16 by omega)), S5.out.below⟩
            · have hr0 : r ≠ 0 := fun h => by
                rw [HR.out] at h
                rcases HZ.out.1 h with h | h
                · exact hm0 h
                · exact hn0 h
              have z2 : ((r : Int) == 0) = false := by simp; omega
              have z4 : ((n : Int) == 0) = false := by simp; omega
              clear hn0 hm0 hr0
              go_wp2_with fail
              refine H1.out.mono ?_
              rintro e w5 ⟨rfl, s5⟩
              have S5 := Lib.hid s5
              clear s5
              go_wp2
              go_ret
              exact ⟨ret_bool (decide_eq_true (show (r : Int) < 16 by omega)), S5.out.below⟩
    · rw [hn] at h1 h2
      rw [hn'] at h3
      have H1 := Lib.hid h1
      have H2 := Lib.hid h2
      have H3 := Lib.hid h3
      clear h1 h2 h3 hn hn'
      go_wp2_with fail
      refine H1.out.mono ?_
      rintro e w2 ⟨rfl, s2⟩
      have S2 := Lib.hid s2
      clear s2 S1 H1
      go_wp2_with fail
      refine (H2.out w2).mono ?_
      rintro e w' ⟨rfl, rfl⟩
      go_wp2_with fail
      refine (H3.out w2 S2.out).mono ?_
      rintro e w3 ⟨rfl, s3⟩
      have S3 := Lib.hid s3
      clear s3 S2 H2 H3
      go_wp2_with fail
      refine (alive_st w w3 S3.out).mono ?_
      rintro e w4 ⟨rfl, s4⟩
      have S4 := Lib.hid s4
      clear s4
      go_wp2
      go_ret
      exact ⟨rfl, S4.out.below⟩
  · go_enter Tryd.func3, Tryd.ntmps3
    go_wp2
    go_ret
    exact ⟨rfl, Below.refl _ _⟩
set_option maxHeartbeats 1000000 in
theorem walkFieldInverse (a : Option Addr) (c : Nat) (ds : List Int) (w : World) (hx : Ints .u8 w w.heap.size a ds) (hw : ∀ n ∈ ds, (Lit.int .u8 n).wf = true) (hc : ds.length ≤ c) (hcm : c ≤ maxLen) (hT : Tabs2 w) :
    Calls Tryd.prog 4 #[.slice a ds.length c] w fun e w' => e = .returned (.bool true) ∧ Below w.heap.size w w' := by
  have hb := isByte_of_wf hw
  clear hw
  by_cases hl : ds.length ≤ 1048576
  · go_enter Tryd.func4, Tryd.ntmps4
    go_wp2_with fail
    refine (drawFieldInverse_any a c ds w hx hb hc hcm).mono ?_
    rintro e w1 ⟨x, ⟨hx1, hx2⟩, rfl, b1⟩
    have S1 := Lib.hid (St.first hT b1)
    clear hx hb hc hcm b1
    have h1 := fieldInverse_any x w1 S1.out.1
    have h2 := specFieldInverse_any x w1
    clear hT
    by_cases hlo : x < 1
    · rw [show invOr x = 0 by
        have : x = -1 ∨ x = 0 := by omega
        rcases this with rfl | rfl <;> rfl] at h1 h2
      have H1 := Lib.hid h1
      have H2 := Lib.hid h2
      clear h1 h2
      go_wp2_with fail
      refine H1.out.mono ?_
      rintro e w' ⟨rfl, rfl⟩
      go_wp2_with fail
      refine H2.out.mono ?_
      rintro e w' ⟨rfl, rfl⟩
      go_wp2_with fail
      refine (alive_st w w1 S1.out).mono ?_
      rintro e w4 ⟨rfl, s4⟩
      have S4 := Lib.hid s4
      clear s4
      go_wp2
      go_ret
      exact ⟨rfl, S4.out.below⟩
    · by_cases hhi : x = 16
      · subst hhi
        rw [show invOr 16 = 0 from rfl] at h1 h2
        have H1 := Lib.hid h1
        have H2 := Lib.hid h2
        clear h1 h2
        go_wp2_with fail
        refine H1.out.mono ?_
        rintro e w' ⟨rfl, rfl⟩
        go_wp2_with fail
        refine H2.out.mono ?_
        rintro e w' ⟨rfl, rfl⟩
        go_wp2_with fail
        refine (alive_st w w1 S1.out).mono ?_
        rintro e w4 ⟨rfl, s4⟩
        have S4 := Lib.hid s4
        clear s4
        go_wp2
        go_ret
        exact ⟨rfl, S4.out.below⟩
      · obtain ⟨m, rfl⟩ : ∃ m : Nat, x = (m : Int) := ⟨x.toNat, by omega⟩
        have hm : m < 16 := by omega
        have hm1 : 1 ≤ m := by omega
        have hmi : (m : Int) < 16 := by omega
        have hf := finv_lt hm
        have e1 := finv_mul hm hm1
        have e2 := finv_inv hm
        have e3 := fpow_inv hm hm1
        rw [invOr_nat hm] at h1 h2
        generalize finv m = F at *
        have E1 := Lib.hid e1
        have E2 := Lib.hid e2
        have E3 := Lib.hid e3
        have H1 := Lib.hid h1
        have H2 := Lib.hid h2
        have z : ((F : Int) != (F : Int)) = false := by simp
        have z1 : ((F : Int) == (F : Int)) = true := by simp
        have z2 : ((m : Int) == (m : Int)) = true := by simp
        clear h1 h2 e1 e2 e3 hhi
        go_wp2_with fail
        refine H1.out.mono ?_
        rintro e w' ⟨rfl, rfl⟩
        go_wp2_with fail
        refine H2.out.mono ?_
        rintro e w' ⟨rfl, rfl⟩
        go_wp2_with fail
        refine (mul_is m F 1 w _ S1.out hm hf E1.out).mono ?_
        rintro e w2 ⟨rfl, s2⟩
        have S2 := Lib.hid s2
        clear s2 S1
        go_wp2_with fail
        refine (inv_is F m w w2 S2.out hf E2.out).mono ?_
        rintro e w' ⟨rfl, rfl⟩
        go_wp2_with fail
        refine (pow_is m 14 F w w2 S2.out hm (by omega) E3.out).mono ?_
        rintro e w' ⟨rfl, rfl⟩
        go_wp2
        go_ret
        exact ⟨rfl, S2.out.below⟩
  · go_enter Tryd.func4, Tryd.ntmps4
    go_wp2
    go_ret
    exact ⟨rfl, Below.refl _ _⟩
set_option maxHeartbeats 1000000 in
theorem walkFieldSquare (a : Option Addr) (c : Nat) (ds : List Int) (w : World) (hx : Ints .u8 w w.heap.size a ds) (hw : ∀ n ∈ ds, (Lit.int .u8 n).wf = true) (hc : ds.length ≤ c) (hcm : c ≤ maxLen) (hT : Tabs2 w) :
    Calls Tryd.prog 8 #[.slice a ds.length c] w fun e w' => e = .returned (.bool true) ∧ Below w.heap.size w w' := by
  have hb := isByte_of_wf hw
  clear hw
  by_cases hl : ds.length ≤ 1048576
  · go_enter Tryd.func8, Tryd.ntmps8
    go_wp2_with fail
    refine (drawFieldMul_any a c ds w hx hb hc hcm).mono ?_
    rintro e w1 ⟨x, y, hx1, hy1, rfl, b1⟩
    have S1 := Lib.hid (St.first hT b1)
    clear hx hb hc hcm b1 hx1 hy1 hT
    have h1 := fieldAdd_any x y w1
    have h2 := specFieldAdd_any x y w1
    rcases both_ok (a := x) (b := y) with ⟨hx, hy⟩ | ⟨hn, _, _⟩
    · obtain ⟨m, rfl, hm⟩ := elOk_nat hx
      obtain ⟨n, rfl, hn⟩ := elOk_nat hy
      rw [addOr_nat hm hn] at h1 h2
      obtain ⟨r, hr⟩ : ∃ r, r = m ^^^ n := ⟨_, rfl⟩
      have hr16 : r < 16 := by rw [hr]; exact xor_lt hm hn
      rw [← hr] at h1 h2
      obtain ⟨x1, hx1⟩ : ∃ x1, fmul r r = x1 := ⟨_, rfl⟩
      obtain ⟨x2, hx2⟩ : ∃ x2, fmul m m = x2 := ⟨_, rfl⟩
      obtain ⟨x3, hx3⟩ : ∃ x3, fmul n n = x3 := ⟨_, rfl⟩
      have g2 : x2 < 16 := by rw [← hx2]; exact fmul_lt hm hm
      have g3 : x3 < 16 := by rw [← hx3]; exact fmul_lt hn hn
      have hx4 : x2 ^^^ x3 = x1 := by rw [← hx1, ← hx2, ← hx3, hr, square_sum hm hn]
      have H1 := Lib.hid h1
      have H2 := Lib.hid h2
      have X1 := Lib.hid hx1
      have X2 := Lib.hid hx2
      have X3 := Lib.hid hx3
      have X4 := Lib.hid hx4
      have z : ((r : Int) != (r : Int)) = false := by simp
      have z1 : ((x1 : Int) == (x1 : Int)) = true := by simp
      clear h1 h2 hx hy hr hx1 hx2 hx3 hx4
      go_wp2_with fail
      refine H1.out.mono ?_
      rintro e w' ⟨rfl, rfl⟩
      go_wp2_with fail
      refine H2.out.mono ?_
      rintro e w' ⟨rfl, rfl⟩
      go_wp2_with fail
      refine (mul_is r r x1 w _ S1.out hr16 hr16 X1.out).mono ?_
      rintro e w2 ⟨rfl, s2⟩
      have S2 := Lib.hid s2
      clear s2 S1
      go_wp2_with fail
      refine (mul_is m m x2 w _ S2.out hm hm X2.out).mono ?_
      rintro e w3 ⟨rfl, s3⟩
      have S3 := Lib.hid s3
      clear s3 S2
      go_wp2_with fail
      refine (mul_is n n x3 w _ S3.out hn hn X3.out).mono ?_
      rintro e w4 ⟨rfl, s4⟩
      have S4 := Lib.hid s4
      clear s4 S3
      go_wp2_with fail
      refine (add_is x2 x3 x1 w4 g2 g3 X4.out).mono ?_
      rintro e w' ⟨rfl, rfl⟩
      go_wp2
      go_ret
      exact ⟨rfl, S4.out.below⟩
    · rw [hn] at h1 h2
      have H1 := Lib.hid h1
      have H2 := Lib.hid h2
      clear h1 h2 hn
      go_wp2_with fail
      refine H1.out.mono ?_
      rintro e w' ⟨rfl, rfl⟩
      go_wp2_with fail
      refine H2.out.mono ?_
      rintro e w' ⟨rfl, rfl⟩
      go_wp2_with fail
      refine (alive_st w w1 S1.out).mono ?_
      rintro e w4 ⟨rfl, s4⟩
      have S4 := Lib.hid s4
      clear s4
      go_wp2
      go_ret
      exact ⟨rfl, S4.out.below⟩
  · go_enter Tryd.func8, Tryd.ntmps8
    go_wp2
    go_ret
    exact ⟨rfl, Below.refl _ _⟩
set_option maxHeartbeats 1000000 in
theorem walkFieldGenerator (a : Option Addr) (c : Nat) (ds : List Int) (w : World) (hx : Ints .u8 w w.heap.size a ds) (hw : ∀ n ∈ ds, (Lit.int .u8 n).wf = true) (hc : ds.length ≤ c) (hcm : c ≤ maxLen) (hT : Tabs2 w) :
    Calls Tryd.prog 9 #[.slice a ds.length c] w fun e w' => e = .returned (.bool true) ∧ Below w.heap.size w w' := by
  have hb := isByte_of_wf hw
  clear hw
  by_cases hl : ds.length ≤ 1048576
  · go_enter Tryd.func9, Tryd.ntmps9
    go_wp2_with fail
    refine (drawFieldInverse_any a c ds w hx hb hc hcm).mono ?_
    rintro e w1 ⟨x, ⟨hx1, hx2⟩, rfl, b1⟩
    have S1 := Lib.hid (St.first hT b1)
    clear hx hb hc hcm b1 hT
    go_wp2
    go_loop [4, 5] (fun s i => ∃ k g : Nat, k ≤ 15 ∧ i = .int .i64 k ∧ s = .int .i64 g ∧ g ≤ k ∧ g = gens x k) (fun _ i => 15 - (intOf i).toNat)
    case atStart => exact ⟨0, 0, by omega, rfl, rfl, by omega, rfl⟩
    case round =>
      obtain ⟨k, g, hk, rfl, rfl, hgk, hg⟩ := hrel
      have HG := Lib.hid hg
      clear hg
      by_cases hlt : k < 15
      · have h1 := pow_is 2 k (fpow 2 k) w w1 S1.out (by omega) (by omega) rfl
        have h2 := specFieldPower_any 2 (k : Int) w1
        have hp : powOr 2 (k : Int) = (fpow 2 k : Int) := powOr_nat (a := 2) (by omega) (by omega)
        rw [hp] at h2
        clear hp
        have hgs : gens x (k + 1) = if (fpow 2 k : Int) = x then gens x k + 1 else gens x k := rfl
        rw [← HG.out] at hgs
        generalize fpow 2 k = P at *
        have H1 := Lib.hid h1
        have H2 := Lib.hid h2
        have z : ((P : Int) != (P : Int)) = false := by simp
        clear h1 h2
        by_cases he : (P : Int) = x
        · rw [if_pos he] at hgs
          have ze : ((P : Int) == x) = true := by simp [he]
          have HS := Lib.hid hgs
          clear hgs he
          go_wp2_with fail
          refine H1.out.mono ?_
          rintro e w' ⟨rfl, rfl⟩
          go_wp2_with fail
          refine H2.out.mono ?_
          rintro e w' ⟨rfl, rfl⟩
          go_wp2
          go_round
          case rel => exact ⟨k + 1, g + 1, by omega, by go_num, by go_num, by omega, HS.out.symm⟩
          case measure => simp [intOf]; omega
        · rw [if_neg he] at hgs
          have ze : ((P : Int) == x) = false := by simp [he]
          have HS := Lib.hid hgs
          clear hgs he
          go_wp2_with fail
          refine H1.out.mono ?_
          rintro e w' ⟨rfl, rfl⟩
          go_wp2_with fail
          refine H2.out.mono ?_
          rintro e w' ⟨rfl, rfl⟩
          go_wp2
          go_round
          case rel => exact ⟨k + 1, g, by omega, by go_num, rfl, by omega, HS.out.symm⟩
          case measure => simp [intOf]; omega
      · obtain rfl : k = 15 := by omega
        have hga := gens_all hx1 hx2
        by_cases hin : 1 ≤ x ∧ x < 16
        · rw [if_pos hin] at hga
          obtain rfl : g = 1 := by rw [HG.out, hga]
          obtain ⟨hin1, hin2⟩ := hin
          clear hga HG
          go_wp2
          go_ret
          exact ⟨rfl, S1.out.below⟩
        · rw [if_neg hin] at hga
          obtain rfl : g = 0 := by rw [HG.out, hga]
          clear hga HG
          by_cases hlo : 1 ≤ x
          · have hhi : decide (x < 16) = false := by simp; omega
            clear hin
            go_wp2
            go_ret
            exact ⟨rfl, S1.out.below⟩
          · clear hin
            go_wp2
            go_ret
            exact ⟨rfl, S1.out.below⟩
  · go_enter Tryd.func9, Tryd.ntmps9
    go_wp2
    go_ret
    exact ⟨rfl, Below.refl _ _⟩
end Go.Proofs.YtlaofbaglepkgaaDoor
