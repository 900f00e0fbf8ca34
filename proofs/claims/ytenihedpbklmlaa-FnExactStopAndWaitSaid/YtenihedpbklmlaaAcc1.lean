/-
  Chapter 15's parts on numbers: whether all senders' numbers are valid, the next seed, the slots that are waited; and the models of the last two. Conditions: a list that can be read; of the models none.
-/
import Derived.Test.YtenihedpbklmlaaAccMath
import Derived.Test.YtenihedpbklmlaaWs1
import Derived.Test.YtenihedpbklmlaaBits1
namespace Go.Proofs.Ytenihedpbklmlaa
open Go.RowKit

set_option maxRecDepth 10000 in
theorem betw_any (n lo hi : Int) (w : World) : Calls Try.prog 54 #[.int .i64 n, .int .i64 lo, .int .i64 hi] w fun e w' => e = .returned (.bool (decide (lo ≤ n ∧ n ≤ hi))) ∧ w = w' := by
  by_cases h1 : lo ≤ n
  · by_cases h2 : n ≤ hi
    · go_enter Try.func54, Try.ntmps54
      go_wp2
      go_ret
      exact ⟨ret_bool (by simp [h1, h2]), rfl⟩
    · go_enter Try.func54, Try.ntmps54
      go_wp2
      go_ret
      exact ⟨ret_bool (by simp [h2]), rfl⟩
  · go_enter Try.func54, Try.ntmps54
    go_wp2
    go_ret
    exact ⟨ret_bool (by simp; intro; omega), rfl⟩
set_option maxRecDepth 10000 in
theorem betw_is (n lo hi : Int) (b : Bool) (w : World) (h : decide (lo ≤ n ∧ n ≤ hi) = b) : Calls Try.prog 54 #[.int .i64 n, .int .i64 lo, .int .i64 hi] w fun e w' => e = .returned (.bool b) ∧ w = w' := by
  subst h; exact betw_any n lo hi w
set_option maxRecDepth 10000 in
theorem betwS_is (n lo hi : Int) (b : Bool) (w : World) (h : decide (lo ≤ n ∧ n ≤ hi) = b) : Calls Try.prog 44 #[.int .i64 n, .int .i64 lo, .int .i64 hi] w fun e w' => e = .returned (.bool b) ∧ w = w' := by
  subst h; rw [Bool.decide_and]; exact l1In_any n lo hi w

/-- At most eight numbers, each from 0 to M. -/
def svIn (M x : Int) : Bool := decide (0 ≤ x) && decide (x ≤ M)
def svOk (M : Int) (xs : List Int) : Bool := decide (xs.length ≤ 8) && xs.all (svIn M)
def svTo (M : Int) (xs : List Int) (k : Nat) : Prop := ∀ i, i < k → 0 ≤ el xs i ∧ el xs i ≤ M
theorem svOk_ss (xs : List Int) : svOk 399 xs = ssOk xs := rfl
theorem svOk_ac (xs : List Int) : svOk 2047 xs = acOk xs := rfl
theorem svIn_iff (M x : Int) : svIn M x = true ↔ 0 ≤ x ∧ x ≤ M := by simp [svIn]
theorem svOk_iff (M : Int) (xs : List Int) : svOk M xs = true ↔ xs.length ≤ 8 ∧ svTo M xs xs.length := by
  unfold svOk svTo
  rw [Bool.and_eq_true, decide_eq_true_eq, List.all_eq_true]
  constructor
  · rintro ⟨h1, h2⟩
    exact ⟨h1, fun i hi => by
      have := h2 (el xs i) (by rw [show el xs i = xs[i] by simp [el, hi]]; exact List.getElem_mem hi)
      exact (svIn_iff M _).1 this⟩
  · rintro ⟨h1, h2⟩
    refine ⟨h1, fun x hx => ?_⟩
    obtain ⟨i, hi, rfl⟩ := List.getElem_of_mem hx
    have := h2 i hi
    rw [show el xs i = xs[i] by simp [el, hi]] at this
    exact (svIn_iff M _).2 this
theorem svOk_no {M : Int} {xs : List Int} (h : ¬ (xs.length ≤ 8 ∧ svTo M xs xs.length)) : svOk M xs = false := by
  rw [Bool.eq_false_iff]; exact fun h' => h ((svOk_iff M xs).1 h')
theorem svTo_next {M : Int} {xs : List Int} {k : Nat} (h : svTo M xs k) (hk : 0 ≤ el xs k ∧ el xs k ≤ M) : svTo M xs (k + 1) := fun i hi => by
  by_cases e : i = k
  · subst e; exact hk
  · exact h i (by omega)
set_option maxRecDepth 10000 in
set_option maxHeartbeats 1000000 in
theorem sendersValid_any (a : Option Addr) (c B : Nat) (xs : List Int) (M : Int) (w : World) (hx : Ints .i64 w B a xs) :
    Calls Try.prog 37 #[.slice a xs.length c, .int .i64 M] w fun e w' => e = .returned (.bool (svOk M xs)) ∧ w = w' := by
  have HX := Lib.hid hx
  clear hx
  by_cases hl : xs.length ≤ 8
  · have HL := Lib.hid hl
    have hl' : ¬ (8 : Int) < (xs.length : Int) := by omega
    clear hl
    go_enter Try.func37, Try.ntmps37
    go_wp2
    clear hl'
    go_loop [12] (fun i => ∃ k : Nat, k ≤ xs.length ∧ i = .int .i64 k ∧ svTo M xs k) (fun i => xs.length - (intOf i).toNat)
    case atStart => exact ⟨0, Nat.zero_le _, rfl, fun i hi => absurd hi (by omega)⟩
    case round =>
      obtain ⟨k, hk, rfl, hgood⟩ := hrel
      have HG := Lib.hid hgood
      have hk2 : k ≤ 8 := Nat.le_trans hk HL.out
      clear hgood
      by_cases hlt : k < xs.length
      · obtain ⟨b, off, rfl, hb, hc⟩ := HX.out.at_ hlt
        obtain ⟨x, hx⟩ : ∃ x, x = el xs k := ⟨_, rfl⟩
        rw [← hx] at hc
        by_cases h0 : 0 ≤ x ∧ x ≤ M
        · have HE := Lib.hid (svTo_next HG.out (by rw [← hx]; exact h0))
          have HI := Lib.hid (fun W => betw_is x 0 M true W (decide_eq_true h0))
          clear hx h0
          go_wp2_with (go_at_call 54; ((with_reducible refine (HI.out _).mono ?_); rintro e w1 ⟨rfl, rfl⟩))
          go_round
          case rel => exact ⟨k + 1, by omega, by go_num, HE.out⟩
          case measure => simp [intOf]; omega
        · have HE := Lib.hid (svOk_no (M := M) (xs := xs) fun h' => h0 (by rw [hx]; exact h'.2 k hlt))
          have HI := Lib.hid (fun W => betw_is x 0 M false W (decide_eq_false h0))
          clear hx h0
          go_wp2_with (go_at_call 54; ((with_reducible refine (HI.out _).mono ?_); rintro e w1 ⟨rfl, rfl⟩))
          go_ret
          exact ⟨ret_bool HE.out.symm, rfl⟩
      · obtain rfl : xs.length = k := by omega
        have HE := Lib.hid ((svOk_iff M xs).2 ⟨HL.out, HG.out⟩)
        go_wp2
        go_ret
        exact ⟨ret_bool HE.out.symm, rfl⟩
  · have HE := Lib.hid (svOk_no (M := M) (xs := xs) fun h' => hl h'.1)
    have hl' : (8 : Int) < (xs.length : Int) := by omega
    clear hl
    go_enter Try.func37, Try.ntmps37
    go_wp2
    go_ret
    exact ⟨ret_bool HE.out.symm, rfl⟩
set_option maxRecDepth 10000 in
theorem sendersValid_is (a : Option Addr) (c B : Nat) (xs : List Int) (M : Int) (b : Bool) (w : World) (hx : Ints .i64 w B a xs) (h : svOk M xs = b) :
    Calls Try.prog 37 #[.slice a xs.length c, .int .i64 M] w fun e w' => e = .returned (.bool b) ∧ w = w' := by
  subst h; exact sendersValid_any a c B xs M w hx

theorem ns_nums {x : Int} (h : 0 ≤ x ∧ x ≤ 2047) : ∃ p q r : Int, 1229 * x = p ∧ p + 1 = q ∧ q.tmod 2048 = r ∧ (IntKind.i64.wrap p = p ∧ wrap64 p = p) ∧ (IntKind.i64.wrap q = q ∧ wrap64 q = q) ∧ (IntKind.i64.wrap r = r ∧ wrap64 r = r) ∧ nsOr x = r := by
  have e : (1229 * x + 1).tmod 2048 = (1229 * x + 1) % 2048 := Int.tmod_eq_emod_of_nonneg (by omega)
  refine ⟨_, _, _, rfl, rfl, rfl, ⟨wrapW (by omega), wrapW' (by omega)⟩, ⟨wrapW (by omega), wrapW' (by omega)⟩, ?_, ?_⟩
  · rw [e]; exact ⟨wrapW (by omega), wrapW' (by omega)⟩
  · rw [e]
    unfold nsOr
    rw [if_pos (by simp [sdIn]; omega)]
    unfold acNx
    omega
theorem nsOr_no {x : Int} (h : ¬ (0 ≤ x ∧ x ≤ 2047)) : nsOr x = 0 := by
  unfold nsOr
  rw [if_neg fun h' => h (sdIn_yes h')]
set_option maxRecDepth 10000 in
theorem nextSeed_any (x : Int) (w : World) : Calls Try.prog 58 #[.int .i64 x] w fun e w' => e = .returned (.int .i64 (nsOr x)) ∧ w = w' := by
  by_cases h : 0 ≤ x ∧ x ≤ 2047
  · obtain ⟨p, q, r, h1, h2, h3, ⟨r1, r1'⟩, ⟨r2, r2'⟩, ⟨r3, r3'⟩, hr⟩ := ns_nums h
    rw [hr]
    have HI := Lib.hid (fun W => betw_is x 0 2047 true W (decide_eq_true h))
    clear h hr
    go_enter Try.func58, Try.ntmps58
    go_wp2_with (go_at_call 54; ((with_reducible refine (HI.out _).mono ?_); rintro e w1 ⟨rfl, rfl⟩))
    go_ret
    exact ⟨rfl, rfl⟩
  · rw [nsOr_no h]
    have HI := Lib.hid (fun W => betw_is x 0 2047 false W (decide_eq_false h))
    clear h
    go_enter Try.func58, Try.ntmps58
    go_wp2_with (go_at_call 54; ((with_reducible refine (HI.out _).mono ?_); rintro e w1 ⟨rfl, rfl⟩))
    go_ret
    exact ⟨rfl, rfl⟩
set_option maxRecDepth 10000 in
theorem specNextSeed_any (x : Int) (w : World) : Calls Try.prog 45 #[.int .i64 x] w fun e w' => e = .returned (.int .i64 (nsOr x)) ∧ w = w' := by
  by_cases h : 0 ≤ x ∧ x ≤ 2047
  · obtain ⟨p, q, r, h1, h2, h3, ⟨r1, r1'⟩, ⟨r2, r2'⟩, ⟨r3, r3'⟩, hr⟩ := ns_nums h
    rw [hr]
    have HI := Lib.hid (fun W => betwS_is x 0 2047 true W (decide_eq_true h))
    clear h hr
    go_enter Try.func45, Try.ntmps45
    go_wp2_with (go_at_call 44; ((with_reducible refine (HI.out _).mono ?_); rintro e w1 ⟨rfl, rfl⟩))
    go_ret
    exact ⟨rfl, rfl⟩
  · rw [nsOr_no h]
    have HI := Lib.hid (fun W => betwS_is x 0 2047 false W (decide_eq_false h))
    clear h
    go_enter Try.func45, Try.ntmps45
    go_wp2_with (go_at_call 44; ((with_reducible refine (HI.out _).mono ?_); rintro e w1 ⟨rfl, rfl⟩))
    go_ret
    exact ⟨rfl, rfl⟩

theorem boOr_no {x a : Int} (h : ¬ ((0 ≤ x ∧ x ≤ 2047) ∧ 1 ≤ a ∧ a ≤ 100)) : boOr x a = -1 := by
  unfold boOr
  rw [if_neg fun h' => h ⟨sdIn_yes h'.1, h'.2⟩]
/-- The waiting time's numbers, for one range. -/
theorem bo_nums {x : Int} (h : 0 ≤ x ∧ x ≤ 2047) (f : Nat) (hf : 1 ≤ f ∧ f ≤ 100) : ∃ q r : Int, x.tdiv 8 = q ∧ (0 ≤ q ∧ q ≤ 255) ∧ q.tmod (2 ^ min f 6) = r ∧ (IntKind.i64.wrap q = q ∧ wrap64 q = q) ∧ (IntKind.i64.wrap r = r ∧ wrap64 r = r) ∧ (0 ≤ r ∧ r ≤ 63) ∧ boOr x f = r := by
  obtain ⟨s, rfl⟩ : ∃ s : Nat, x = s := ⟨x.toNat, by omega⟩
  have h1 := acBo_small s f
  have h2 : s / 8 ≤ 255 := by omega
  refine ⟨((s / 8 : Nat) : Int), (acBo s f : Int), rfl, by omega, ?_, ⟨wrapW (by omega), wrapW' (by omega)⟩, ⟨wrapW (by omega), wrapW' (by omega)⟩, by omega, boOr_nat (by omega) hf.1 hf.2⟩
  rw [Int.tmod_eq_emod_of_nonneg (by omega)]
  unfold acBo
  simp
set_option maxRecDepth 10000 in
set_option maxHeartbeats 1000000 in
theorem backoffSlots_any (x a : Int) (w : World) : Calls Try.prog 59 #[.int .i64 x, .int .i64 a] w fun e w' => e = .returned (.int .i64 (boOr x a)) ∧ w = w' := by
  by_cases h : 0 ≤ x ∧ x ≤ 2047
  · have HI := Lib.hid (fun W => betw_is x 0 2047 true W (decide_eq_true h))
    by_cases ha : 1 ≤ a ∧ a ≤ 100
    · have HJ := Lib.hid (fun W => betw_is a 1 100 true W (decide_eq_true ha))
      by_cases h6 : 6 ≤ a
      · obtain ⟨q, r, h1, h2, h3, ⟨r1, r1'⟩, ⟨r2, r2'⟩, h4, hr⟩ := bo_nums h a.toNat (by omega)
        rw [show min a.toNat 6 = 6 by omega, show (2 : Int) ^ 6 = 64 from rfl] at h3
        rw [show ((a.toNat : Nat) : Int) = a by omega] at hr
        rw [hr]
        clear h ha hr
        by_cases e6 : 6 < a
        · go_enter Try.func59, Try.ntmps59
          go_wp2_with first
            | (go_at_call 54; ((with_reducible refine (HI.out _).mono ?_); rintro e w1 ⟨rfl, rfl⟩))
            | (go_at_call 54; ((with_reducible refine (HJ.out _).mono ?_); rintro e w1 ⟨rfl, rfl⟩))
          go_ret
          exact ⟨rfl, rfl⟩
        · obtain rfl : a = 6 := by omega
          go_enter Try.func59, Try.ntmps59
          go_wp2_with first
            | (go_at_call 54; ((with_reducible refine (HI.out _).mono ?_); rintro e w1 ⟨rfl, rfl⟩))
            | (go_at_call 54; ((with_reducible refine (HJ.out _).mono ?_); rintro e w1 ⟨rfl, rfl⟩))
          go_ret
          exact ⟨rfl, rfl⟩
      · obtain rfl | rfl | rfl | rfl | rfl : a = 1 ∨ a = 2 ∨ a = 3 ∨ a = 4 ∨ a = 5 := by omega
        · obtain ⟨q, r, h1, h2, h3, ⟨r1, r1'⟩, ⟨r2, r2'⟩, h4, hr⟩ := bo_nums h 1 (by decide)
          rw [show (2 : Int) ^ min 1 6 = 2 from rfl] at h3
          rw [show ((1 : Nat) : Int) = 1 from rfl] at hr
          rw [hr]
          clear h ha hr h6
          go_enter Try.func59, Try.ntmps59
          go_wp2_with first
            | (go_at_call 54; ((with_reducible refine (HI.out _).mono ?_); rintro e w1 ⟨rfl, rfl⟩))
            | (go_at_call 54; ((with_reducible refine (HJ.out _).mono ?_); rintro e w1 ⟨rfl, rfl⟩))
          go_ret
          exact ⟨rfl, rfl⟩
        · obtain ⟨q, r, h1, h2, h3, ⟨r1, r1'⟩, ⟨r2, r2'⟩, h4, hr⟩ := bo_nums h 2 (by decide)
          rw [show (2 : Int) ^ min 2 6 = 4 from rfl] at h3
          rw [show ((2 : Nat) : Int) = 2 from rfl] at hr
          rw [hr]
          clear h ha hr h6
          go_enter Try.func59, Try.ntmps59
          go_wp2_with first
            | (go_at_call 54; ((with_reducible refine (HI.out _).mono ?_); rintro e w1 ⟨rfl, rfl⟩))
            | (go_at_call 54; ((with_reducible refine (HJ.out _).mono ?_); rintro e w1 ⟨rfl, rfl⟩))
          go_ret
          exact ⟨rfl, rfl⟩
        · obtain ⟨q, r, h1, h2, h3, ⟨r1, r1'⟩, ⟨r2, r2'⟩, h4, hr⟩ := bo_nums h 3 (by decide)
          rw [show (2 : Int) ^ min 3 6 = 8 from rfl] at h3
          rw [show ((3 : Nat) : Int) = 3 from rfl] at hr
          rw [hr]
          clear h ha hr h6
          go_enter Try.func59, Try.ntmps59
          go_wp2_with first
            | (go_at_call 54; ((with_reducible refine (HI.out _).mono ?_); rintro e w1 ⟨rfl, rfl⟩))
            | (go_at_call 54; ((with_reducible refine (HJ.out _).mono ?_); rintro e w1 ⟨rfl, rfl⟩))
          go_ret
          exact ⟨rfl, rfl⟩
        · obtain ⟨q, r, h1, h2, h3, ⟨r1, r1'⟩, ⟨r2, r2'⟩, h4, hr⟩ := bo_nums h 4 (by decide)
          rw [show (2 : Int) ^ min 4 6 = 16 from rfl] at h3
          rw [show ((4 : Nat) : Int) = 4 from rfl] at hr
          rw [hr]
          clear h ha hr h6
          go_enter Try.func59, Try.ntmps59
          go_wp2_with first
            | (go_at_call 54; ((with_reducible refine (HI.out _).mono ?_); rintro e w1 ⟨rfl, rfl⟩))
            | (go_at_call 54; ((with_reducible refine (HJ.out _).mono ?_); rintro e w1 ⟨rfl, rfl⟩))
          go_ret
          exact ⟨rfl, rfl⟩
        · obtain ⟨q, r, h1, h2, h3, ⟨r1, r1'⟩, ⟨r2, r2'⟩, h4, hr⟩ := bo_nums h 5 (by decide)
          rw [show (2 : Int) ^ min 5 6 = 32 from rfl] at h3
          rw [show ((5 : Nat) : Int) = 5 from rfl] at hr
          rw [hr]
          clear h ha hr h6
          go_enter Try.func59, Try.ntmps59
          go_wp2_with first
            | (go_at_call 54; ((with_reducible refine (HI.out _).mono ?_); rintro e w1 ⟨rfl, rfl⟩))
            | (go_at_call 54; ((with_reducible refine (HJ.out _).mono ?_); rintro e w1 ⟨rfl, rfl⟩))
          go_ret
          exact ⟨rfl, rfl⟩
    · rw [boOr_no fun h' => ha h'.2]
      have HJ := Lib.hid (fun W => betw_is a 1 100 false W (decide_eq_false ha))
      clear h ha
      go_enter Try.func59, Try.ntmps59
      go_wp2_with first
        | (go_at_call 54; ((with_reducible refine (HI.out _).mono ?_); rintro e w1 ⟨rfl, rfl⟩))
        | (go_at_call 54; ((with_reducible refine (HJ.out _).mono ?_); rintro e w1 ⟨rfl, rfl⟩))
      go_ret
      exact ⟨rfl, rfl⟩
  · rw [boOr_no fun h' => h h'.1]
    have HI := Lib.hid (fun W => betw_is x 0 2047 false W (decide_eq_false h))
    clear h
    go_enter Try.func59, Try.ntmps59
    go_wp2_with (go_at_call 54; ((with_reducible refine (HI.out _).mono ?_); rintro e w1 ⟨rfl, rfl⟩))
    go_ret
    exact ⟨rfl, rfl⟩
set_option maxRecDepth 10000 in
set_option maxHeartbeats 1000000 in
theorem specBackoffSlots_any (x a : Int) (w : World) : Calls Try.prog 46 #[.int .i64 x, .int .i64 a] w fun e w' => e = .returned (.int .i64 (boOr x a)) ∧ w = w' := by
  by_cases h : 0 ≤ x ∧ x ≤ 2047
  · have HI := Lib.hid (fun W => betwS_is x 0 2047 true W (decide_eq_true h))
    by_cases ha : 1 ≤ a ∧ a ≤ 100
    · have HJ := Lib.hid (fun W => betwS_is a 1 100 true W (decide_eq_true ha))
      by_cases h6 : 6 ≤ a
      · obtain ⟨q, r, h1, h2, h3, ⟨r1, r1'⟩, ⟨r2, r2'⟩, h4, hr⟩ := bo_nums h a.toNat (by omega)
        rw [show min a.toNat 6 = 6 by omega, show (2 : Int) ^ 6 = 64 from rfl] at h3
        rw [show ((a.toNat : Nat) : Int) = a by omega] at hr
        rw [hr]
        clear h ha hr
        by_cases e6 : 6 < a
        · go_enter Try.func46, Try.ntmps46
          go_wp2_with first
            | (go_at_call 44; ((with_reducible refine (HI.out _).mono ?_); rintro e w1 ⟨rfl, rfl⟩))
            | (go_at_call 44; ((with_reducible refine (HJ.out _).mono ?_); rintro e w1 ⟨rfl, rfl⟩))
          go_ret
          exact ⟨rfl, rfl⟩
        · obtain rfl : a = 6 := by omega
          go_enter Try.func46, Try.ntmps46
          go_wp2_with first
            | (go_at_call 44; ((with_reducible refine (HI.out _).mono ?_); rintro e w1 ⟨rfl, rfl⟩))
            | (go_at_call 44; ((with_reducible refine (HJ.out _).mono ?_); rintro e w1 ⟨rfl, rfl⟩))
          go_ret
          exact ⟨rfl, rfl⟩
      · obtain rfl | rfl | rfl | rfl | rfl : a = 1 ∨ a = 2 ∨ a = 3 ∨ a = 4 ∨ a = 5 := by omega
        · obtain ⟨q, r, h1, h2, h3, ⟨r1, r1'⟩, ⟨r2, r2'⟩, h4, hr⟩ := bo_nums h 1 (by decide)
          rw [show (2 : Int) ^ min 1 6 = 2 from rfl] at h3
          rw [show ((1 : Nat) : Int) = 1 from rfl] at hr
          rw [hr]
          clear h ha hr h6
          go_enter Try.func46, Try.ntmps46
          go_wp2_with first
            | (go_at_call 44; ((with_reducible refine (HI.out _).mono ?_); rintro e w1 ⟨rfl, rfl⟩))
            | (go_at_call 44; ((with_reducible refine (HJ.out _).mono ?_); rintro e w1 ⟨rfl, rfl⟩))
          go_ret
          exact ⟨rfl, rfl⟩
        · obtain ⟨q, r, h1, h2, h3, ⟨r1, r1'⟩, ⟨r2, r2'⟩, h4, hr⟩ := bo_nums h 2 (by decide)
          rw [show (2 : Int) ^ min 2 6 = 4 from rfl] at h3
          rw [show ((2 : Nat) : Int) = 2 from rfl] at hr
          rw [hr]
          clear h ha hr h6
          go_enter Try.func46, Try.ntmps46
          go_wp2_with first
            | (go_at_call 44; ((with_reducible refine (HI.out _).mono ?_); rintro e w1 ⟨rfl, rfl⟩))
            | (go_at_call 44; ((with_reducible refine (HJ.out _).mono ?_); rintro e w1 ⟨rfl, rfl⟩))
          go_ret
          exact ⟨rfl, rfl⟩
        · obtain ⟨q, r, h1, h2, h3, ⟨r1, r1'⟩, ⟨r2, r2'⟩, h4, hr⟩ := bo_nums h 3 (by decide)
          rw [show (2 : Int) ^ min 3 6 = 8 from rfl] at h3
          rw [show ((3 : Nat) : Int) = 3 from rfl] at hr
          rw [hr]
          clear h ha hr h6
          go_enter Try.func46, Try.ntmps46
          go_wp2_with first
            | (go_at_call 44; ((with_reducible refine (HI.out _).mono ?_); rintro e w1 ⟨rfl, rfl⟩))
            | (go_at_call 44; ((with_reducible refine (HJ.out _).mono ?_); rintro e w1 ⟨rfl, rfl⟩))
          go_ret
          exact ⟨rfl, rfl⟩
        · obtain ⟨q, r, h1, h2, h3, ⟨r1, r1'⟩, ⟨r2, r2'⟩, h4, hr⟩ := bo_nums h 4 (by decide)
          rw [show (2 : Int) ^ min 4 6 = 16 from rfl] at h3
          rw [show ((4 : Nat) : Int) = 4 from rfl] at hr
          rw [hr]
          clear h ha hr h6
          go_enter Try.func46, Try.ntmps46
          go_wp2_with first
            | (go_at_call 44; ((with_reducible refine (HI.out _).mono ?_); rintro e w1 ⟨rfl, rfl⟩))
            | (go_at_call 44; ((with_reducible refine (HJ.out _).mono ?_); rintro e w1 ⟨rfl, rfl⟩))
          go_ret
          exact ⟨rfl, rfl⟩
        · obtain ⟨q, r, h1, h2, h3, ⟨r1, r1'⟩, ⟨r2, r2'⟩, h4, hr⟩ := bo_nums h 5 (by decide)
          rw [show (2 : Int) ^ min 5 6 = 32 from rfl] at h3
          rw [show ((5 : Nat) : Int) = 5 from rfl] at hr
          rw [hr]
          clear h ha hr h6
          go_enter Try.func46, Try.ntmps46
          go_wp2_with first
            | (go_at_call 44; ((with_reducible refine (HI.out _).mono ?_); rintro e w1 ⟨rfl, rfl⟩))
            | (go_at_call 44; ((with_reducible refine (HJ.out _).mono ?_); rintro e w1 ⟨rfl, rfl⟩))
          go_ret
          exact ⟨rfl, rfl⟩
    · rw [boOr_no fun h' => ha h'.2]
      have HJ := Lib.hid (fun W => betwS_is a 1 100 false W (decide_eq_false ha))
      clear h ha
      go_enter Try.func46, Try.ntmps46
      go_wp2_with first
        | (go_at_call 44; ((with_reducible refine (HI.out _).mono ?_); rintro e w1 ⟨rfl, rfl⟩))
        | (go_at_call 44; ((with_reducible refine (HJ.out _).mono ?_); rintro e w1 ⟨rfl, rfl⟩))
      go_ret
      exact ⟨rfl, rfl⟩
  · rw [boOr_no fun h' => h h'.1]
    have HI := Lib.hid (fun W => betwS_is x 0 2047 false W (decide_eq_false h))
    clear h
    go_enter Try.func46, Try.ntmps46
    go_wp2_with (go_at_call 44; ((with_reducible refine (HI.out _).mono ?_); rintro e w1 ⟨rfl, rfl⟩))
    go_ret
    exact ⟨rfl, rfl⟩
end Go.Proofs.Ytenihedpbklmlaa
