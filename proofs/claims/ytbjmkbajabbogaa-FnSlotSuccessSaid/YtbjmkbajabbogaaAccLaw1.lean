/-
  The laws of NextSeed (P82) and BackoffSlots (P83), walked, and the laws of their exactness: they return true for every code and all arguments, and write into nothing that was there. No condition.
-/
import Derived.Test.YtbjmkbajabbogaaAcc1
import Derived.Test.YtbjmkbajabbogaaAccDraw
namespace Go.Proofs.Ytbjmkbajabbogaa
open Go.RowKit

theorem aliveA_from {w W : World} (hB : Below w.heap.size w W) : Calls Try.prog 16 #[] W fun e w' => e = .returned (.bool true) ∧ Below w.heap.size w w' := (alive_any W).mono fun _ _ ⟨h1, h2⟩ => ⟨h1, Below.next hB (Nat.le_refl _) h2⟩
theorem nextSeed_is (x s : Int) (w : World) (h : nsOr x = s) : Calls Try.prog 18 #[.int .i64 x] w fun e w' => e = .returned (.int .i64 s) ∧ w = w' := by subst h; exact nextSeed_any x w
theorem specNextSeed_is (x s : Int) (w : World) (h : nsOr x = s) : Calls Try.prog 19 #[.int .i64 x] w fun e w' => e = .returned (.int .i64 s) ∧ w = w' := by subst h; exact specNextSeed_any x w
theorem backoffSlots_is (x a s : Int) (w : World) (h : boOr x a = s) : Calls Try.prog 21 #[.int .i64 x, .int .i64 a] w fun e w' => e = .returned (.int .i64 s) ∧ w = w' := by subst h; exact backoffSlots_any x a w
theorem specBackoffSlots_is (x a s : Int) (w : World) (h : boOr x a = s) : Calls Try.prog 22 #[.int .i64 x, .int .i64 a] w fun e w' => e = .returned (.int .i64 s) ∧ w = w' := by subst h; exact specBackoffSlots_any x a w
theorem walkExactNextSeed (x : Int) (w : World) : Calls Try.prog 9 #[.int .i64 x] w fun e w' => e = .returned (.bool true) ∧ w = w' := by
  obtain ⟨S, hS⟩ : ∃ S, nsOr x = S := ⟨_, rfl⟩
  have H1 := Lib.hid (nextSeed_is x S w hS)
  have H2 := Lib.hid (specNextSeed_is x S w hS)
  have z3 : (S == S) = true := by simp
  have z4 : (S != S) = false := by simp
  clear hS
  go_enter Try.func9, Try.ntmps9
  go_wp2_with (first | (go_at_call 18; (with_reducible refine H1.out.mono ?_); rintro e w1 ⟨rfl, rfl⟩) | (go_at_call 19; (with_reducible refine H2.out.mono ?_); rintro e w1 ⟨rfl, rfl⟩))
  go_ret
  exact ⟨rfl, rfl⟩
theorem walkExactBackoffSlots (x a : Int) (w : World) : Calls Try.prog 10 #[.int .i64 x, .int .i64 a] w fun e w' => e = .returned (.bool true) ∧ w = w' := by
  obtain ⟨S, hS⟩ : ∃ S, boOr x a = S := ⟨_, rfl⟩
  have H1 := Lib.hid (backoffSlots_is x a S w hS)
  have H2 := Lib.hid (specBackoffSlots_is x a S w hS)
  have z3 : (S == S) = true := by simp
  have z4 : (S != S) = false := by simp
  clear hS
  go_enter Try.func10, Try.ntmps10
  go_wp2_with (first | (go_at_call 21; (with_reducible refine H1.out.mono ?_); rintro e w1 ⟨rfl, rfl⟩) | (go_at_call 22; (with_reducible refine H2.out.mono ?_); rintro e w1 ⟨rfl, rfl⟩))
  go_ret
  exact ⟨rfl, rfl⟩
theorem nsOr_other {x : Int} (h : 0 ≤ x ∧ x ≤ 2047) {k : Nat} (hk : k < 2048) (hne : ¬ (k : Int) = x) : ¬ nsOr k = nsOr x := fun e => by
  obtain ⟨s, rfl⟩ : ∃ s : Nat, x = s := ⟨x.toNat, by omega⟩
  rw [nsOr_nat hk, nsOr_nat (by omega)] at e
  exact hne (by rw [acNx_inj hk (by omega) (Int.ofNat.inj e)])
set_option maxHeartbeats 4000000 in
theorem walkNextSeed (a : Option Addr) (c : Nat) (ds : List Int) (w : World) (hx : Ints .u8 w w.heap.size a ds) (hw : ∀ n ∈ ds, (Lit.int .u8 n).wf = true) (hc : ds.length ≤ c) (hcm : c ≤ maxLen) :
    Calls Try.prog 4 #[.slice a ds.length c] w fun e w' => e = .returned (.bool true) ∧ Below w.heap.size w w' := by
  have hb := isByte_of_wf hw
  clear hw
  by_cases hl : ds.length ≤ 1048576
  · go_enter Try.func4, Try.ntmps4
    go_wp2_with fail
    refine (drawNextSeed_any a c ds w hx hb hc hcm).mono ?_
    rintro e w1 ⟨x, rfl, hx2, bl⟩
    have B1 := Lib.hid bl
    have HAL := Lib.hid (aliveA_from bl)
    clear hx hb hc hcm bl hl
    obtain ⟨S, hS⟩ : ∃ S, nsOr x = S := ⟨_, rfl⟩
    have H1 := Lib.hid (nextSeed_is x S w1 hS)
    have H2 := Lib.hid (specNextSeed_is x S w1 hS)
    have HS := Lib.hid hS
    have z3 : (S == S) = true := by simp
    have z4 : (S != S) = false := by simp
    clear hS
    by_cases h0 : x < 0
    · obtain rfl : S = 0 := by rw [← HS.out]; exact nsOr_no (by omega)
      go_wp2_with (first | (go_at_call 18; (with_reducible refine H1.out.mono ?_); rintro e w2 ⟨rfl, rfl⟩) | (go_at_call 19; (with_reducible refine H2.out.mono ?_); rintro e w2 ⟨rfl, rfl⟩) | (go_at_call 16; (with_reducible refine HAL.out.mono ?_); rintro e w5 ⟨rfl, h5⟩))
      go_ret
      exact ⟨rfl, h5⟩
    · have hxr : 0 ≤ x ∧ x ≤ 2047 := by omega
      have HXR := Lib.hid hxr
      have hSr : 0 ≤ S ∧ S ≤ 2047 := by
        rw [← HS.out, show x = (x.toNat : Int) by omega, nsOr_nat (by omega)]
        have := acNx_lt x.toNat
        omega
      have HSR := Lib.hid hSr
      have h1 : ¬ 2047 < x := by omega
      clear hx2 hxr hSr
      go_wp2_with (first | (go_at_call 18; (with_reducible refine H1.out.mono ?_); rintro e w2 ⟨rfl, rfl⟩) | (go_at_call 19; (with_reducible refine H2.out.mono ?_); rintro e w2 ⟨rfl, rfl⟩))
      go_loop [5] (fun i => ∃ k : Nat, k ≤ 2048 ∧ i = .int .i64 k) (fun i => 2048 - (intOf i).toNat)
      case atStart => exact ⟨0, Nat.zero_le _, rfl⟩
      case round =>
        obtain ⟨k, hk, rfl⟩ := hrel
        by_cases hlt : k < 2048
        · by_cases he : (k : Int) = x
          · have z5 : ((k : Int) != x) = false := by simp [he]
            clear h0 h1
            clear he
            go_wp2
            go_round
            case rel => exact ⟨k + 1, by omega, by go_num⟩
            case measure => simp [intOf]; omega
          · have z5 : ((k : Int) != x) = true := by simp [he]
            obtain ⟨T, hT⟩ : ∃ T, nsOr (k : Int) = T := ⟨_, rfl⟩
            have z6 : (T == S) = false := by simp [← hT, ← HS.out, nsOr_other HXR.out hlt he]
            have z7 : ¬ T = S := by simpa using z6
            have H3 := Lib.hid (nextSeed_is (k : Int) T w1 hT)
            clear h0 h1 hT
            go_wp2_with (go_at_call 18; (with_reducible refine H3.out.mono ?_); rintro e w2 ⟨rfl, rfl⟩)
            go_round
            case rel => exact ⟨k + 1, by omega, by go_num⟩
            case measure => simp [intOf]; omega
        · obtain rfl : k = 2048 := by omega
          obtain ⟨y1, y2⟩ := HSR.out
          clear h0 h1
          go_wp2
          go_ret
          exact ⟨rfl, B1.out⟩
  · go_enter Try.func4, Try.ntmps4
    go_wp2
    go_ret
    exact ⟨rfl, Below.refl _ _⟩
theorem bo_step {x : Int} (h : 0 ≤ x ∧ x ≤ 2047) (k k1 : Nat) (p q : Int) (hk : 1 ≤ k ∧ k ≤ 100) (hk1 : k1 = min 100 (k + 1)) (hp : p = ((2 ^ min k 6 : Nat) : Int)) (hq : q = ((2 ^ k : Nat) : Int)) :
    ∃ n m : Int, boOr x k = n ∧ boOr x k1 = m ∧ 0 ≤ n ∧ n < p ∧ (m = n ∨ (k < 6 ∧ m = n + q)) := by
  obtain ⟨s, rfl⟩ : ∃ s : Nat, x = s := ⟨x.toNat, by omega⟩
  refine ⟨(acBo s k : Int), (acBo s k1 : Int), boOr_nat (by omega) hk.1 hk.2, boOr_nat (by omega) (by omega) (by omega), by omega, ?_, ?_⟩
  · have := acBo_lt s k
    rw [hp]; exact Int.ofNat_lt.2 this
  · by_cases e : k = 100
    · subst e
      left
      rw [hk1]; rfl
    · rw [show k1 = k + 1 by omega]
      rcases acBo_next s k with h1 | ⟨h1, h2⟩
      · exact .inl (by rw [h1])
      · exact .inr ⟨h1, by rw [h2, hq]; omega⟩
theorem boOr_pos {x y : Int} (h : 0 ≤ boOr x y) : (0 ≤ x ∧ x ≤ 2047) ∧ 1 ≤ y ∧ y ≤ 100 := by
  by_cases hc : (0 ≤ x ∧ x ≤ 2047) ∧ 1 ≤ y ∧ y ≤ 100
  · exact hc
  · rw [boOr_no hc] at h; omega
set_option maxHeartbeats 8000000 in
theorem walkBackoffSlots (a : Option Addr) (c : Nat) (ds : List Int) (w : World) (hx : Ints .u8 w w.heap.size a ds) (hw : ∀ n ∈ ds, (Lit.int .u8 n).wf = true) (hc : ds.length ≤ c) (hcm : c ≤ maxLen) :
    Calls Try.prog 5 #[.slice a ds.length c] w fun e w' => e = .returned (.bool true) ∧ Below w.heap.size w w' := by
  have hb := isByte_of_wf hw
  clear hw
  by_cases hl : ds.length ≤ 1048576
  · go_enter Try.func5, Try.ntmps5
    go_wp2_with fail
    refine (drawBackoffSlots_any a c ds w hx hb hc hcm).mono ?_
    rintro e w1 ⟨x, y, rfl, hx2, hy, bl⟩
    have B1 := Lib.hid bl
    have HAL := Lib.hid (aliveA_from bl)
    clear hx hb hc hcm bl hl
    by_cases hok : (0 ≤ x ∧ x ≤ 2047) ∧ 1 ≤ y ∧ y ≤ 100
    · obtain ⟨h, hy1⟩ := hok
      have hcase : y = 1 ∨ y = 2 ∨ y = 3 ∨ y = 4 ∨ y = 5 ∨ y = 6 ∨ y = 7 ∨ y = 8 ∨ y = 100 := by
        rcases hy with rfl | rfl | rfl | hy <;> omega
      clear hy hy1 hx2
      rcases hcase with rfl | rfl | rfl | rfl | rfl | rfl | rfl | rfl | rfl
      · obtain ⟨n, m, e1, e2, h1, h2, h3⟩ := bo_step h 1 2 2 (2 ^ 1) (by decide) (by decide) (by decide) (by simp)
        have H1 := Lib.hid (fun W => backoffSlots_is x 1 n W e1)
        have H2 := Lib.hid (fun W => specBackoffSlots_is x 1 n W e1)
        have H3 := Lib.hid (fun W => backoffSlots_is x 2 m W e2)
        have h0 : ¬ n < 0 := by omega
        have z1 : (n != n) = false := by simp
        have z2 : (n == n) = true := by simp
        clear e1 e2 h1 h
        rcases h3 with rfl | ⟨h3, h4⟩
        · go_wp2_with (first | (go_at_call 21; (first | (with_reducible refine (H1.out _).mono ?_) | (with_reducible refine (H3.out _).mono ?_)); rintro e w2 ⟨rfl, rfl⟩) | (go_at_call 22; (with_reducible refine (H2.out _).mono ?_); rintro e w2 ⟨rfl, rfl⟩))
          go_ret
          exact ⟨rfl, B1.out⟩
        · have h5 : m = n + 2 := by simpa using h4
          subst h5
          have r1 := wrapW (n := n + 2) (by omega)
          have r1' := wrapW' (n := n + 2) (by omega)
          have z5 : (n + 2 == n) = false := by simp; omega
          have z6 : (n + 2 == n + 2) = true := by simp
          clear h3 h4
          go_wp2_with (first | (go_at_call 21; (first | (with_reducible refine (H1.out _).mono ?_) | (with_reducible refine (H3.out _).mono ?_)); rintro e w2 ⟨rfl, rfl⟩) | (go_at_call 22; (with_reducible refine (H2.out _).mono ?_); rintro e w2 ⟨rfl, rfl⟩))
          go_ret
          exact ⟨rfl, B1.out⟩
      · obtain ⟨n, m, e1, e2, h1, h2, h3⟩ := bo_step h 2 3 4 (2 ^ 2) (by decide) (by decide) (by decide) (by simp)
        have H1 := Lib.hid (fun W => backoffSlots_is x 2 n W e1)
        have H2 := Lib.hid (fun W => specBackoffSlots_is x 2 n W e1)
        have H3 := Lib.hid (fun W => backoffSlots_is x 3 m W e2)
        have h0 : ¬ n < 0 := by omega
        have z1 : (n != n) = false := by simp
        have z2 : (n == n) = true := by simp
        clear e1 e2 h1 h
        rcases h3 with rfl | ⟨h3, h4⟩
        · go_wp2_with (first | (go_at_call 21; (first | (with_reducible refine (H1.out _).mono ?_) | (with_reducible refine (H3.out _).mono ?_)); rintro e w2 ⟨rfl, rfl⟩) | (go_at_call 22; (with_reducible refine (H2.out _).mono ?_); rintro e w2 ⟨rfl, rfl⟩))
          go_ret
          exact ⟨rfl, B1.out⟩
        · have h5 : m = n + 4 := by simpa using h4
          subst h5
          have r1 := wrapW (n := n + 4) (by omega)
          have r1' := wrapW' (n := n + 4) (by omega)
          have z5 : (n + 4 == n) = false := by simp; omega
          have z6 : (n + 4 == n + 4) = true := by simp
          clear h3 h4
          go_wp2_with (first | (go_at_call 21; (first | (with_reducible refine (H1.out _).mono ?_) | (with_reducible refine (H3.out _).mono ?_)); rintro e w2 ⟨rfl, rfl⟩) | (go_at_call 22; (with_reducible refine (H2.out _).mono ?_); rintro e w2 ⟨rfl, rfl⟩))
          go_ret
          exact ⟨rfl, B1.out⟩
      · obtain ⟨n, m, e1, e2, h1, h2, h3⟩ := bo_step h 3 4 8 (2 ^ 3) (by decide) (by decide) (by decide) (by simp)
        have H1 := Lib.hid (fun W => backoffSlots_is x 3 n W e1)
        have H2 := Lib.hid (fun W => specBackoffSlots_is x 3 n W e1)
        have H3 := Lib.hid (fun W => backoffSlots_is x 4 m W e2)
        have h0 : ¬ n < 0 := by omega
        have z1 : (n != n) = false := by simp
        have z2 : (n == n) = true := by simp
        clear e1 e2 h1 h
        rcases h3 with rfl | ⟨h3, h4⟩
        · go_wp2_with (first | (go_at_call 21; (first | (with_reducible refine (H1.out _).mono ?_) | (with_reducible refine (H3.out _).mono ?_)); rintro e w2 ⟨rfl, rfl⟩) | (go_at_call 22; (with_reducible refine (H2.out _).mono ?_); rintro e w2 ⟨rfl, rfl⟩))
          go_ret
          exact ⟨rfl, B1.out⟩
        · have h5 : m = n + 8 := by simpa using h4
          subst h5
          have r1 := wrapW (n := n + 8) (by omega)
          have r1' := wrapW' (n := n + 8) (by omega)
          have z5 : (n + 8 == n) = false := by simp; omega
          have z6 : (n + 8 == n + 8) = true := by simp
          clear h3 h4
          go_wp2_with (first | (go_at_call 21; (first | (with_reducible refine (H1.out _).mono ?_) | (with_reducible refine (H3.out _).mono ?_)); rintro e w2 ⟨rfl, rfl⟩) | (go_at_call 22; (with_reducible refine (H2.out _).mono ?_); rintro e w2 ⟨rfl, rfl⟩))
          go_ret
          exact ⟨rfl, B1.out⟩
      · obtain ⟨n, m, e1, e2, h1, h2, h3⟩ := bo_step h 4 5 16 (2 ^ 4) (by decide) (by decide) (by decide) (by simp)
        have H1 := Lib.hid (fun W => backoffSlots_is x 4 n W e1)
        have H2 := Lib.hid (fun W => specBackoffSlots_is x 4 n W e1)
        have H3 := Lib.hid (fun W => backoffSlots_is x 5 m W e2)
        have h0 : ¬ n < 0 := by omega
        have z1 : (n != n) = false := by simp
        have z2 : (n == n) = true := by simp
        clear e1 e2 h1 h
        rcases h3 with rfl | ⟨h3, h4⟩
        · go_wp2_with (first | (go_at_call 21; (first | (with_reducible refine (H1.out _).mono ?_) | (with_reducible refine (H3.out _).mono ?_)); rintro e w2 ⟨rfl, rfl⟩) | (go_at_call 22; (with_reducible refine (H2.out _).mono ?_); rintro e w2 ⟨rfl, rfl⟩))
          go_ret
          exact ⟨rfl, B1.out⟩
        · have h5 : m = n + 16 := by simpa using h4
          subst h5
          have r1 := wrapW (n := n + 16) (by omega)
          have r1' := wrapW' (n := n + 16) (by omega)
          have z5 : (n + 16 == n) = false := by simp; omega
          have z6 : (n + 16 == n + 16) = true := by simp
          clear h3 h4
          go_wp2_with (first | (go_at_call 21; (first | (with_reducible refine (H1.out _).mono ?_) | (with_reducible refine (H3.out _).mono ?_)); rintro e w2 ⟨rfl, rfl⟩) | (go_at_call 22; (with_reducible refine (H2.out _).mono ?_); rintro e w2 ⟨rfl, rfl⟩))
          go_ret
          exact ⟨rfl, B1.out⟩
      · obtain ⟨n, m, e1, e2, h1, h2, h3⟩ := bo_step h 5 6 32 (2 ^ 5) (by decide) (by decide) (by decide) (by simp)
        have H1 := Lib.hid (fun W => backoffSlots_is x 5 n W e1)
        have H2 := Lib.hid (fun W => specBackoffSlots_is x 5 n W e1)
        have H3 := Lib.hid (fun W => backoffSlots_is x 6 m W e2)
        have h0 : ¬ n < 0 := by omega
        have z1 : (n != n) = false := by simp
        have z2 : (n == n) = true := by simp
        clear e1 e2 h1 h
        rcases h3 with rfl | ⟨h3, h4⟩
        · go_wp2_with (first | (go_at_call 21; (first | (with_reducible refine (H1.out _).mono ?_) | (with_reducible refine (H3.out _).mono ?_)); rintro e w2 ⟨rfl, rfl⟩) | (go_at_call 22; (with_reducible refine (H2.out _).mono ?_); rintro e w2 ⟨rfl, rfl⟩))
          go_ret
          exact ⟨rfl, B1.out⟩
        · have h5 : m = n + 32 := by simpa using h4
          subst h5
          have r1 := wrapW (n := n + 32) (by omega)
          have r1' := wrapW' (n := n + 32) (by omega)
          have z5 : (n + 32 == n) = false := by simp; omega
          have z6 : (n + 32 == n + 32) = true := by simp
          clear h3 h4
          go_wp2_with (first | (go_at_call 21; (first | (with_reducible refine (H1.out _).mono ?_) | (with_reducible refine (H3.out _).mono ?_)); rintro e w2 ⟨rfl, rfl⟩) | (go_at_call 22; (with_reducible refine (H2.out _).mono ?_); rintro e w2 ⟨rfl, rfl⟩))
          go_ret
          exact ⟨rfl, B1.out⟩
      · obtain ⟨n, m, e1, e2, h1, h2, h3⟩ := bo_step h 6 7 64 (2 ^ 6) (by decide) (by decide) (by decide) (by simp)
        have H1 := Lib.hid (fun W => backoffSlots_is x 6 n W e1)
        have H2 := Lib.hid (fun W => specBackoffSlots_is x 6 n W e1)
        have H3 := Lib.hid (fun W => backoffSlots_is x 7 m W e2)
        have h0 : ¬ n < 0 := by omega
        have z1 : (n != n) = false := by simp
        have z2 : (n == n) = true := by simp
        clear e1 e2 h1 h
        rcases h3 with rfl | ⟨h3, h4⟩
        · go_wp2_with (first | (go_at_call 21; (first | (with_reducible refine (H1.out _).mono ?_) | (with_reducible refine (H3.out _).mono ?_)); rintro e w2 ⟨rfl, rfl⟩) | (go_at_call 22; (with_reducible refine (H2.out _).mono ?_); rintro e w2 ⟨rfl, rfl⟩))
          go_ret
          exact ⟨rfl, B1.out⟩
        · exact absurd h3 (by decide)
      · obtain ⟨n, m, e1, e2, h1, h2, h3⟩ := bo_step h 7 8 64 (2 ^ 7) (by decide) (by decide) (by decide) (by simp)
        have H1 := Lib.hid (fun W => backoffSlots_is x 7 n W e1)
        have H2 := Lib.hid (fun W => specBackoffSlots_is x 7 n W e1)
        have H3 := Lib.hid (fun W => backoffSlots_is x 8 m W e2)
        have h0 : ¬ n < 0 := by omega
        have z1 : (n != n) = false := by simp
        have z2 : (n == n) = true := by simp
        clear e1 e2 h1 h
        rcases h3 with rfl | ⟨h3, h4⟩
        · go_wp2_with (first | (go_at_call 21; (first | (with_reducible refine (H1.out _).mono ?_) | (with_reducible refine (H3.out _).mono ?_)); rintro e w2 ⟨rfl, rfl⟩) | (go_at_call 22; (with_reducible refine (H2.out _).mono ?_); rintro e w2 ⟨rfl, rfl⟩))
          go_ret
          exact ⟨rfl, B1.out⟩
        · exact absurd h3 (by decide)
      · obtain ⟨n, m, e1, e2, h1, h2, h3⟩ := bo_step h 8 9 64 (2 ^ 8) (by decide) (by decide) (by decide) (by simp)
        have H1 := Lib.hid (fun W => backoffSlots_is x 8 n W e1)
        have H2 := Lib.hid (fun W => specBackoffSlots_is x 8 n W e1)
        have H3 := Lib.hid (fun W => backoffSlots_is x 9 m W e2)
        have h0 : ¬ n < 0 := by omega
        have z1 : (n != n) = false := by simp
        have z2 : (n == n) = true := by simp
        clear e1 e2 h1 h
        rcases h3 with rfl | ⟨h3, h4⟩
        · go_wp2_with (first | (go_at_call 21; (first | (with_reducible refine (H1.out _).mono ?_) | (with_reducible refine (H3.out _).mono ?_)); rintro e w2 ⟨rfl, rfl⟩) | (go_at_call 22; (with_reducible refine (H2.out _).mono ?_); rintro e w2 ⟨rfl, rfl⟩))
          go_ret
          exact ⟨rfl, B1.out⟩
        · exact absurd h3 (by decide)
      · obtain ⟨n, m, e1, e2, h1, h2, h3⟩ := bo_step h 100 100 64 (2 ^ 100) (by decide) (by decide) (by decide) (by simp)
        have H1 := Lib.hid (fun W => backoffSlots_is x 100 n W e1)
        have H2 := Lib.hid (fun W => specBackoffSlots_is x 100 n W e1)
        have H3 := Lib.hid (fun W => backoffSlots_is x 100 m W e2)
        have h0 : ¬ n < 0 := by omega
        have z1 : (n != n) = false := by simp
        have z2 : (n == n) = true := by simp
        clear e1 e2 h1 h
        rcases h3 with rfl | ⟨h3, h4⟩
        · go_wp2_with (first | (go_at_call 21; (first | (with_reducible refine (H1.out _).mono ?_) | (with_reducible refine (H3.out _).mono ?_)); rintro e w2 ⟨rfl, rfl⟩) | (go_at_call 22; (with_reducible refine (H2.out _).mono ?_); rintro e w2 ⟨rfl, rfl⟩))
          go_ret
          exact ⟨rfl, B1.out⟩
        · exact absurd h3 (by decide)
    · have e1 := boOr_no hok
      have H1 := Lib.hid (backoffSlots_is x y (-1) w1 e1)
      have H2 := Lib.hid (specBackoffSlots_is x y (-1) w1 e1)
      clear hok hy e1 hx2
      go_wp2_with (first | (go_at_call 21; (with_reducible refine H1.out.mono ?_); rintro e w2 ⟨rfl, rfl⟩) | (go_at_call 22; (with_reducible refine H2.out.mono ?_); rintro e w2 ⟨rfl, rfl⟩) | (go_at_call 16; (with_reducible refine HAL.out.mono ?_); rintro e w5 ⟨rfl, h5⟩))
      go_ret
      exact ⟨rfl, h5⟩
  · go_enter Try.func5, Try.ntmps5
    go_wp2
    go_ret
    exact ⟨rfl, Below.refl _ _⟩
end Go.Proofs.Ytbjmkbajabbogaa
