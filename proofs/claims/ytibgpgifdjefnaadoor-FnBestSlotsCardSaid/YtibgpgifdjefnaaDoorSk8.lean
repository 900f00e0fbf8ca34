/-
  The size of the greatest group: the first station of a set (by the library's table), the recursion. Conditions: the table of package math/bits lies in its variable; a table that can be read.
-/
import Derived.Test.YtibgpgifdjefnaaDoorSk2
import Derived.Laws.Cover1
namespace Go.Proofs.YtibgpgifdjefnaaDoor
open Go.RowKit

/-- The library's table. -/
def dbL : List Int := [0, 1, 28, 2, 29, 14, 24, 3, 30, 22, 20, 15, 25, 17, 4, 8, 31, 27, 13, 23, 21, 19, 16, 7, 26, 12, 18, 6, 11, 5, 10, 9]
def DbTab (w : World) : Prop := 0 < w.heap.size ∧ ∀ i, i < 32 → w.cell? ⟨0, i, none⟩ = some (.int .u8 (el dbL i))
theorem DbTab.next {w w' : World} (h : DbTab w) (hb : Below w.heap.size w w') : DbTab w' := ⟨Nat.lt_of_lt_of_le h.1 hb.size, fun i hi => (hb.cell (p := ⟨0, i, none⟩) h.1).trans (h.2 i hi)⟩
theorem DbTab.at_ {w : World} (h : DbTab w) {i : Nat} {v : Int} (hi : i < 32) (hv : el dbL i = v) : w.cell? ⟨0, i, none⟩ = some (.int .u8 v) := by rw [← hv]; exact h.2 i hi
/-- The lowest bit of a set. -/
def lowB (n : Nat) : Nat := ((List.range 10).find? fun i => n.testBit i).getD 10
theorem low_all : ((List.range 1024).all fun n => n == 0 || (n.testBit (lowB n) && decide (lowB n < 10) && (bits .and .u16 (n : Int) (IntKind.u16.wrap (-(n : Int))) == ((2 ^ lowB n : Nat) : Int)))) = true := by decide +kernel
theorem low_is {S : Nat} (h : S < 1024) (h0 : S ≠ 0) : S.testBit (lowB S) = true ∧ lowB S < 10 ∧ bits .and .u16 (S : Int) (IntKind.u16.wrap (-(S : Int))) = ((2 ^ lowB S : Nat) : Int) := by
  have h1 := List.all_eq_true.1 low_all S (List.mem_range.2 h)
  simp only [Bool.or_eq_true, Bool.and_eq_true, decide_eq_true_eq, beq_iff_eq] at h1
  rcases h1 with h1 | ⟨⟨h1, h2⟩, h3⟩
  · exact absurd h1 h0
  · exact ⟨h1, h2, h3⟩
set_option maxRecDepth 10000 in
set_option maxHeartbeats 2000000 in
theorem tz16_is (S i : Nat) (w : World) (hS : S < 1024) (h0 : S ≠ 0) (hi : lowB S = i) (hT : DbTab w) :
    Calls Tryd.prog 50 #[.int .u16 (S : Int)] w fun e w' => e = .returned (.int .i64 (i : Int)) ∧ w = w' := by
  obtain ⟨_, h2, h3⟩ := low_is hS h0
  rw [hi] at h2 h3
  have z : ((S : Int) == 0) = false := by rw [beq_eq_false_iff_ne]; omega
  have h4 : i = 0 ∨ i = 1 ∨ i = 2 ∨ i = 3 ∨ i = 4 ∨ i = 5 ∨ i = 6 ∨ i = 7 ∨ i = 8 ∨ i = 9 := by omega
  obtain ⟨k, hk, hv, he⟩ : ∃ k : Nat, k < 32 ∧ (2 : Int) ^ i % 4294967296 * 125613361 % 4294967296 / 134217728 = (k : Int) ∧ el dbL k = (i : Int) := by
    rcases h4 with rfl | rfl | rfl | rfl | rfl | rfl | rfl | rfl | rfl | rfl
    · exact ⟨0, by omega, rfl, rfl⟩
    · exact ⟨1, by omega, rfl, rfl⟩
    · exact ⟨3, by omega, rfl, rfl⟩
    · exact ⟨7, by omega, rfl, rfl⟩
    · exact ⟨14, by omega, rfl, rfl⟩
    · exact ⟨29, by omega, rfl, rfl⟩
    · exact ⟨27, by omega, rfl, rfl⟩
    · exact ⟨23, by omega, rfl, rfl⟩
    · exact ⟨15, by omega, rfl, rfl⟩
    · exact ⟨31, by omega, rfl, rfl⟩
  have c0 := hT.at_ hk he
  have hk' : (k : Int) < 32 := by omega
  have hi' : (i : Int) < 10 := by omega
  clear hT hi h4 he
  go_enter Tryd.func50, Tryd.ntmps50
  go_wp2
  go_ret
  exact ⟨rfl, rfl⟩
set_option maxRecDepth 10000 in
theorem setFirst_is (S i : Nat) (w : World) (hS : S < 1024) (h0 : S ≠ 0) (hi : lowB S = i) (hT : DbTab w) :
    Calls Tryd.prog 46 #[.int .u16 (S : Int)] w fun e w' => e = .returned (.int .i64 (i : Int)) ∧ w = w' := by
  have HZ := Lib.hid (tz16_is S i w hS h0 hi hT)
  clear hi hT
  go_enter Tryd.func46, Tryd.ntmps46
  go_wp2_with (go_at_call 50; (with_reducible refine HZ.out.mono ?_); rintro e w1 ⟨rfl, rfl⟩)
  go_ret
  exact ⟨rfl, rfl⟩
/-- What the recursion answers. -/
def LgP (R : List (List Bool)) (S : Nat) (w : World) (e : Ending) (w' : World) : Prop := ∃ m : Nat, e = .returned (.int .i64 (m : Int)) ∧ m ≤ 10 ∧ IsGr (cf R) R.length (fun i => S.testBit i) m ∧ w = w'
theorem gr_small {g : Nat → Nat → Bool} {n m : Nat} {S : Nat → Bool} (h : IsGr g n S m) (hn : n ≤ 10) : m ≤ 10 := by
  obtain ⟨⟨P, _, _, rfl⟩, _⟩ := h
  have := cnP_le P n
  omega
set_option maxRecDepth 10000 in
set_option maxHeartbeats 4000000 in
theorem largestGroup_any (a : Option Addr) (c B : Nat) (R : List (List Bool)) (hO : TbOk R) : ∀ (F S : Nat) (w : World), S < F → S < 2 ^ R.length → DbTab w → Ints .u16 w B a (setL R) →
    Calls Tryd.prog 32 #[.slice a R.length c, .int .u16 (S : Int)] w (LgP R S w) := by
  intro F
  induction F with
  | zero => intro S w h; omega
  | succ F ih =>
    intro S w hSF hS hT hI
    have h10 : R.length ≤ 10 := hO.1
    have hS10 : S < 1024 := Nat.lt_of_lt_of_le hS (Nat.pow_le_pow_right (n := 2) (by omega) h10)
    by_cases h0 : S = 0
    · subst h0
      have HE := Lib.hid (IsGr.none_ (g := cf R) (n := R.length) (S := fun i => (0 : Nat).testBit i) fun i _ => Nat.zero_testBit i)
      have z : ((((0 : Nat) : Int)) == 0) = true := by simp
      clear ih hT hI
      go_enter Tryd.func32, Tryd.ntmps32
      go_wp2
      go_ret
      exact ⟨0, rfl, by omega, HE.out, rfl⟩
    · obtain ⟨i, hi⟩ : ∃ i, lowB S = i := ⟨_, rfl⟩
      obtain ⟨hb, hi10, _⟩ := low_is hS10 h0
      rw [hi] at hb hi10
      have hiR : i < R.length := by
        rcases Nat.lt_or_ge i R.length with h | h
        · exact h
        · rw [Nat.testBit_lt_two_pow (Nat.lt_of_lt_of_le hS (Nat.pow_le_pow_right (n := 2) (by omega) h))] at hb; cases hb
      obtain ⟨b, off, rfl, hbb, hc⟩ := sets_at hI hiR
      have hcs := csN_lt h10 i
      have HF := Lib.hid (setFirst_is S i w hS10 h0 hi hT)
      -- the two smaller sets
      obtain ⟨X, hX⟩ : ∃ X, X = S &&& csN R i := ⟨_, rfl⟩
      have hXb : ∀ j, X.testBit j = (S.testBit j && (decide (j < R.length) && cf R i j)) := fun j => by rw [hX, Nat.testBit_and, csN, stN_bit]
      have hXS : X < S := by
        have h1 : X ≤ S := by rw [hX]; exact Nat.and_le_left
        rcases Nat.lt_or_ge X S with h2 | h2
        · exact h2
        · have h3 := hXb i
          rw [show X = S by omega, hb, (hO.2.2 i hiR).1] at h3
          simp at h3
      obtain ⟨Y, hY⟩ : ∃ Y, Y = S &&& (1023 ^^^ 2 ^ i) := ⟨_, rfl⟩
      have hYb : ∀ j, Y.testBit j = (S.testBit j && decide (j ≠ i)) := fun j => by
        rw [hY, Nat.testBit_and, Nat.testBit_xor, show (1023 : Nat) = 2 ^ 10 - 1 from rfl, Nat.testBit_two_pow_sub_one, Nat.testBit_two_pow]
        by_cases hj : j < 10
        · by_cases e : j = i
          · subst e; simp [hj]
          · simp [hj, e, Ne.symm e]
        · rw [Nat.testBit_lt_two_pow (x := S) (i := j) (Nat.lt_of_lt_of_le (show S < 2 ^ 10 by omega) (Nat.pow_le_pow_right (by omega) (by omega)))]; rfl
      have hYS : Y < S := by
        have h1 : Y ≤ S := by rw [hY]; exact Nat.and_le_left
        rcases Nat.lt_or_ge Y S with h2 | h2
        · exact h2
        · have h3 := hYb i
          rw [show Y = S by omega, hb] at h3
          simp at h3
      have HX := Lib.hid (ih X w (by omega) (by omega) hT hI)
      have HY := Lib.hid (ih Y w (by omega) (by omega) hT hI)
      have HW := Lib.hid (fun W => setWithout_is S i Y W (by omega) (by omega) hYb)
      have HE := Lib.hid (fun (m1 m2 : Nat) (h1 : IsGr (cf R) R.length (fun j => X.testBit j) m1) (h2 : IsGr (cf R) R.length (fun j => Y.testBit j) m2) => IsGr.step (S := fun j => S.testBit j) hiR hb (hO.2.2 i hiR).1 (fun a b ha hb => hO.sym a b ha hb)
        (h1.congr fun j hj => by rw [hXb]; simp [hj]) (h2.congr fun j hj => hYb j))
      have hand : bits .and .u16 (S : Int) (csN R i : Int) = (X : Int) := by rw [and_u16 _ _ (by omega) (by omega), hX]
      have z : ((S : Int) == 0) = false := by rw [beq_eq_false_iff_ne]; omega
      have hiR' : (i : Int) < (R.length : Int) := by omega
      clear ih hT hI hX hY hXb hYb hb hi
      generalize csN R i = C at *
      go_enter Tryd.func32, Tryd.ntmps32
      go_wp2_with (first
        | (go_at_call 46; (with_reducible refine HF.out.mono ?_); rintro e w1 ⟨rfl, rfl⟩)
        | (go_at_call 42; (with_reducible refine (HW.out _).mono ?_); rintro e w1 ⟨rfl, rfl⟩)
        | (go_at_call 32; (with_reducible refine HX.out.mono ?_); rintro e w1 ⟨m1, rfl, hm1, g1, rfl⟩
           have G1 := Lib.hid g1
           clear g1)
        | (go_at_call 32; (with_reducible refine HY.out.mono ?_); rintro e w1 ⟨m2, rfl, hm2, g2, rfl⟩
           have G3 := Lib.hid (HE.out m1 m2 G1.out g2)
           have hm3 := gr_small G3.out h10
           obtain ⟨m3, e3⟩ : ∃ m3, m3 = max (1 + m1) m2 := ⟨_, rfl⟩
           rw [← e3] at G3 hm3
           have hmx : (if ((m2 : Int) > 1 + (m1 : Int)) then (m2 : Int) else 1 + (m1 : Int)) = (m3 : Int) := by split <;> omega
           clear g2 e3))
      go_ret
      exact ⟨m3, rfl, hm3, G3.out, rfl⟩
/-- The size of the greatest group. -/
def okJ (g : Nat → Nat → Bool) (x i : Nat) : Nat → Bool
  | 0 => true
  | j + 1 => okJ g x i j && (!inQ x j || g i j)
def okB (g : Nat → Nat → Bool) (x : Nat) : Nat → Bool
  | 0 => true
  | i + 1 => okB g x i && (!inQ x i || okJ g x i i)
theorem okJ_iff {g : Nat → Nat → Bool} {x i : Nat} : ∀ {n : Nat}, okJ g x i n = true ↔ ∀ j, j < n → inQ x j = true → g i j = true
  | 0 => ⟨fun _ j hj => absurd hj (Nat.not_lt_zero _), fun _ => rfl⟩
  | n + 1 => by
    rw [okJ, Bool.and_eq_true, okJ_iff]
    constructor
    · rintro ⟨h1, h2⟩ j hj hq
      by_cases e : j = n
      · subst e; rw [hq] at h2; simpa using h2
      · exact h1 j (by omega) hq
    · intro h
      refine ⟨fun j hj hq => h j (by omega) hq, ?_⟩
      cases hq : inQ x n
      · rfl
      · simpa using h n (by omega) hq
theorem okB_iff {g : Nat → Nat → Bool} {x : Nat} : ∀ {n : Nat}, okB g x n = true ↔ okQ g x n
  | 0 => ⟨fun _ i hi => absurd hi (Nat.not_lt_zero _), fun _ => rfl⟩
  | n + 1 => by
    rw [okB, Bool.and_eq_true, okB_iff]
    constructor
    · rintro ⟨h1, h2⟩ i hi hq j hj hq'
      by_cases e : i = n
      · subst e
        rw [hq] at h2
        exact okJ_iff.1 (by simpa using h2) j hj hq'
      · exact h1 i (by omega) hq j hj hq'
    · intro h
      refine ⟨fun i hi hq j hj hq' => h i (by omega) hq j hj hq', ?_⟩
      cases hq : inQ x n
      · rfl
      · simpa using okJ_iff.2 fun j hj hq' => h n (by omega) hq j hj hq'
theorem okB_false {g : Nat → Nat → Bool} {x i : Nat} (h : okB g x i = false) : ∀ {n : Nat}, i ≤ n → okB g x n = false
  | 0, hn => by rw [← Nat.le_zero.1 hn]; exact h
  | n + 1, hn => by
    by_cases e : i = n + 1
    · rw [← e]; exact h
    · rw [okB, okB_false h (n := n) (by omega)]; rfl
def gpN (R : List (List Bool)) : Nat := bsQ (cf R) (fun x => okB (cf R) x R.length) R.length (2 ^ R.length)
def gpO (R : List (List Bool)) : Int := if tbB R then (gpN R : Int) else -1
theorem gpN_is (R : List (List Bool)) : IsGr (cf R) R.length (fun _ => true) (gpN R) := bsQ_is fun _ => okB_iff
theorem gpO_no {R : List (List Bool)} (h : tbB R = false) : gpO R = -1 := by simp [gpO, h]
theorem gpO_yes {R : List (List Bool)} (h : tbB R = true) : gpO R = (gpN R : Int) := by simp [gpO, h]
set_option maxRecDepth 10000 in
set_option maxHeartbeats 2000000 in
theorem groupSize_is (a : Option Addr) (c : Nat) (R : List (List Bool)) (w : World) (hx : TbL w w.heap.size a R) (hT : DbTab w) :
    Calls Tryd.prog 14 #[.slice a R.length c] w fun e w' => e = .returned (.int .i64 (gpO R)) ∧ Below w.heap.size w w' := by
  have HC := Lib.hid (conflictSets_any a c R w hx)
  have HD := Lib.hid hT
  clear hx hT
  cases htb : tbB R
  · have HT := Lib.hid htb
    rw [gpO_no htb]
    clear htb
    go_enter Tryd.func14, Tryd.ntmps14
    go_wp2_with fail
    refine HC.out.mono ?_
    rintro e w1 ⟨a1, n1, c1, rfl, hb, _⟩
    rw [HT.out]
    have HB := Lib.hid hb
    clear hb
    go_wp2
    go_ret
    exact ⟨rfl, HB.out⟩
  · have HT := Lib.hid htb
    have HO := Lib.hid (tbB_ok htb)
    have h10 : R.length ≤ 10 := HO.out.1
    rw [gpO_yes htb]
    clear htb
    obtain ⟨P, hP⟩ : ∃ P, P = 2 ^ R.length := ⟨_, rfl⟩
    have hP0 : 1 ≤ P := by rw [hP]; exact Nat.one_le_two_pow
    have hP1 : P ≤ 1024 := by rw [hP]; exact Nat.pow_le_pow_right (n := 2) (by omega) h10
    have e1 : IntKind.u16.wrap ((2 : Int) ^ R.length) = (P : Int) := by rw [shl_u16 (by omega), hP]
    have e2 : IntKind.u16.wrap ((P : Int) - 1) = ((P - 1 : Nat) : Int) := by rw [IntKind.wrap_u16]; omega
    obtain ⟨S, hS⟩ : ∃ S, S = P - 1 := ⟨_, rfl⟩
    rw [← hS] at e2
    have HG := Lib.hid (fun (a1 : Option Addr) (c1 : Nat) (w1 : World) (hi : Ints .u16 w1 w1.heap.size a1 (setL R)) (hT : DbTab w1) => largestGroup_any a1 c1 w1.heap.size R HO.out (S + 1) S w1 (by omega) (by rw [← hP]; omega) hT hi)
    have HE := Lib.hid (fun (m : Nat) (h : IsGr (cf R) R.length (fun i => S.testBit i) m) => (h.congr (S' := fun _ => true) fun i hi => by rw [hS, hP, Nat.testBit_two_pow_sub_one]; simp [hi]).unique (gpN_is R))
    clear hP hS hP0 hP1
    go_enter Tryd.func14, Tryd.ntmps14
    go_wp2_with fail
    refine HC.out.mono ?_
    rintro e w1 ⟨a1, n1, c1, rfl, hb, hi⟩
    obtain ⟨rfl, hi2⟩ := hi HT.out
    rw [HT.out]
    have HB := Lib.hid hb
    have HL := Lib.hid (HG.out a1 c1 w1 hi2 (HD.out.next hb))
    clear hb hi hi2
    go_wp2_with (go_at_call 32; (with_reducible refine HL.out.mono ?_); rintro e w2 ⟨m, rfl, hm, g1, rfl⟩
                 have HM := Lib.hid (HE.out m g1)
                 clear g1)
    go_ret
    exact ⟨ret_int (by rw [HM.out]), HB.out⟩
end Go.Proofs.YtibgpgifdjefnaaDoor
