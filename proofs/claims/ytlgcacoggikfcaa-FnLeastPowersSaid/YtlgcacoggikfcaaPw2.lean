/-
  What LinksValid and LinksMeet, and the power that a link needs, answer. Conditions: rows and lists can be read; the needed power: valid links, as many powers.
-/
import Derived.Test.YtlgcacoggikfcaaPw1
namespace Go.Proofs.Ytlgcacoggikfcaa
open Go.RowKit

def RowsTo (R : List (List Int)) (k : Nat) : Prop := ∀ i, i < k → RowOk R.length i (rwI R i)
theorem rowsTo_next {R : List (List Int)} {k : Nat} (h : RowsTo R k) (h1 : RowOk R.length k (rwI R k)) : RowsTo R (k + 1) := fun j hj => by
  rcases Nat.lt_succ_iff_lt_or_eq.1 hj with h2 | rfl
  · exact h j h2
  · exact h1
set_option maxHeartbeats 2000000 in
theorem linksValid_any (a : Option Addr) (c : Nat) (R : List (List Int)) (N T : Int) (w : World) (hr : RowsL w w.heap.size a R) :
    Calls Try.prog 13 #[lkV a R.length c N T] w fun e w' => e = .returned (.bool (decide (LkOk R N T))) ∧ Below w.heap.size w w' := by
  have HB := Lib.hid (lbox_new w a R.length c N T 25)
  have HR : Hid (RowsL (w.alloc (.cells #[.slice a R.length c, .int .i64 N, .int .i64 T] 25)) w.heap.size a R) := hr.below HB.out.b
  have hbg := HB.out.g
  have hbn := HB.out.n
  have hbt := HB.out.t
  clear hr
  unfold lkV
  by_cases h1 : 1 ≤ R.length ∧ R.length ≤ 5
  · have H1 := Lib.hid (fun W => isBetween_is (R.length : Int) 1 5 true W (decide_eq_true (by omega)))
    by_cases h2 : 1 ≤ N ∧ N ≤ 1000
    · have H2 := Lib.hid (fun W => isBetween_is N 1 1000 true W (decide_eq_true h2))
      by_cases h3 : 1 ≤ T ∧ T ≤ 100
      · have H3 := Lib.hid (fun W => isBetween_is T 1 100 true W (decide_eq_true h3))
        have hn5 := h1.2
        have HE : Hid (RowsTo R R.length → LkOk R N T) := fun h => ⟨h1, h2, h3, h⟩
        clear h1 h2 h3
        go_enter Try.func13, Try.ntmps13
        go_wp2_with (go_at_call 36; (first | ((with_reducible refine (H1.out _).mono ?_); rintro e w1 ⟨rfl, rfl⟩) | ((with_reducible refine (H2.out _).mono ?_); rintro e w1 ⟨rfl, rfl⟩) | ((with_reducible refine (H3.out _).mono ?_); rintro e w1 ⟨rfl, rfl⟩)))
        generalize w.alloc (.cells #[.slice a R.length c, .int .i64 N, .int .i64 T] 25) = W at *
        clear H1 H2 H3
        go_loop [27] (fun x => ∃ k : Nat, k ≤ R.length ∧ x = .int .i64 k ∧ RowsTo R k) (fun x => R.length - (intOf x).toNat)
        case atStart => exact ⟨0, Nat.zero_le _, rfl, fun i hi => absurd hi (by omega)⟩
        case round =>
          obtain ⟨k, hk, rfl, hgood⟩ := hrel
          have HG := Lib.hid hgood
          clear hgood
          by_cases hlt : k < R.length
          · obtain ⟨b, off, ad, cp, rfl, hrow, _, _, hin⟩ := HR.out.at_ hlt
            have HI := Lib.hid (linkGains_any ad cp w.heap.size (rwI R k) k R.length W hin hlt hn5)
            clear hin
            by_cases h4 : RowOk R.length k (rwI R k)
            · rw [decide_eq_true h4] at HI
              have HT := Lib.hid (rowsTo_next HG.out h4)
              clear h4
              go_wp2_with (go_at_call 37; ((with_reducible refine HI.out.mono ?_); rintro e w1 ⟨rfl, rfl⟩))
              go_round
              case rel => exact ⟨k + 1, by omega, by go_num, HT.out⟩
              case measure => simp [intOf]; omega
            · rw [decide_eq_false h4] at HI
              have HF : Hid (decide (LkOk R N T) = false) := decide_eq_false fun h => h4 (h.2.2.2 k hlt)
              clear h4
              go_wp2_with (go_at_call 37; ((with_reducible refine HI.out.mono ?_); rintro e w1 ⟨rfl, rfl⟩))
              go_ret
              exact ⟨ret_bool HF.out.symm, HB.out.b⟩
          · obtain rfl : R.length = k := by omega
            have HF : Hid (decide (LkOk R N T) = true) := decide_eq_true (HE.out HG.out)
            go_wp2
            go_ret
            exact ⟨ret_bool HF.out.symm, HB.out.b⟩
      · have H3 := Lib.hid (fun W => isBetween_is T 1 100 false W (decide_eq_false h3))
        have HF : Hid (decide (LkOk R N T) = false) := decide_eq_false fun h => h3 h.2.2.1
        clear h1 h2 h3
        go_enter Try.func13, Try.ntmps13
        go_wp2_with (go_at_call 36; (first | ((with_reducible refine (H1.out _).mono ?_); rintro e w1 ⟨rfl, rfl⟩) | ((with_reducible refine (H2.out _).mono ?_); rintro e w1 ⟨rfl, rfl⟩) | ((with_reducible refine (H3.out _).mono ?_); rintro e w1 ⟨rfl, rfl⟩)))
        go_ret
        exact ⟨ret_bool HF.out.symm, HB.out.b⟩
    · have H2 := Lib.hid (fun W => isBetween_is N 1 1000 false W (decide_eq_false h2))
      have HF : Hid (decide (LkOk R N T) = false) := decide_eq_false fun h => h2 h.2.1
      clear h1 h2
      go_enter Try.func13, Try.ntmps13
      go_wp2_with (go_at_call 36; (first | ((with_reducible refine (H1.out _).mono ?_); rintro e w1 ⟨rfl, rfl⟩) | ((with_reducible refine (H2.out _).mono ?_); rintro e w1 ⟨rfl, rfl⟩)))
      go_ret
      exact ⟨ret_bool HF.out.symm, HB.out.b⟩
  · have H1 := Lib.hid (fun W => isBetween_is (R.length : Int) 1 5 false W (decide_eq_false (by omega)))
    have HF : Hid (decide (LkOk R N T) = false) := decide_eq_false fun h => h1 h.1
    clear h1
    go_enter Try.func13, Try.ntmps13
    go_wp2_with (go_at_call 36; ((with_reducible refine (H1.out _).mono ?_); rintro e w1 ⟨rfl, rfl⟩))
    go_ret
    exact ⟨ret_bool HF.out.symm, HB.out.b⟩
/-- The test, its answer known. -/
theorem linksValid_is (a : Option Addr) (c : Nat) (R : List (List Int)) (N T : Int) (b : Bool) (w : World) (hr : RowsL w w.heap.size a R) (h : decide (LkOk R N T) = b) :
    Calls Try.prog 13 #[.agg #[.slice a R.length c, .int .i64 N, .int .i64 T]] w fun e w' => e = .returned (.bool b) ∧ Below w.heap.size w w' := by
  subst h; exact linksValid_any a c R N T w hr
theorem powersValid_is (a : Option Addr) (c B : Nat) (P : List Int) (n : Nat) (b : Bool) (w : World) (hx : Ints .i64 w B a P) (hn : n ≤ 5) (h : decide (PwOk n P) = b) :
    Calls Try.prog 42 #[.slice a P.length c, .int .i64 (n : Int)] w fun e w' => e = .returned (.bool b) ∧ w = w' := by
  subst h; exact powersValid_any a c B P n w hx hn
set_option maxHeartbeats 1000000 in
theorem neededPower_is (a v : Option Addr) (c c' : Nat) (R : List (List Int)) (N T : Int) (P : List Int) (i : Nat) (d : Int) (w : World) (hr : RowsL w w.heap.size a R) (hv : Ints .i64 w w.heap.size v P)
    (hok : LkOk R N T) (hp : PwOk R.length P) (hi : i < R.length) (hd : stI R N T P i = d) :
    Calls Try.prog 56 #[lkV a R.length c N T, .slice v P.length c', .int .i64 (i : Int)] w fun e w' => e = .returned (.int .i64 d) ∧ Below w.heap.size w w' := by
  have HB := Lib.hid (lbox_new w a R.length c N T 25)
  have HR := Lib.hid (RowsL.next hr HB.out.b)
  have HV := Lib.hid (Ints.next hv HB.out.b)
  obtain ⟨x, hx⟩ : ∃ x, x = ndI R N T P i := ⟨_, rfl⟩
  have HN := Lib.hid (neededSignal_is a v c c' R N T P i x _ HR.out HV.out hok hp hi hx.symm)
  unfold lkV at HN
  have hx1 := ndI_in hok hp hi
  have hg1 := gI_in hok hi
  have hn5 := hok.1.2
  obtain ⟨b, off, ad, cp, rfl, hrow, hcp, hcm, hints⟩ := (hr.below HB.out.b).at_ hi
  rw [(hok.2.2.2 i hi).1] at hrow hcp
  obtain ⟨b1, off1, rfl, hb1, hc1⟩ := hints.at_ (i := i) (by rw [(hok.2.2.2 i hi).1]; exact hi)
  have hPl := hp.1
  have hbg := HB.out.g
  have hbn := HB.out.n
  have hbt := HB.out.t
  rw [← hx] at hx1
  obtain ⟨q, hq⟩ : ∃ q, (x + 10 * el (rwI R i) i - 1) / (10 * el (rwI R i) i) = q := ⟨_, rfl⟩
  have hd' := stI_is (R := R) (N := N) (T := T) (P := P) (i := i) (q := q) (by rw [← hx]; exact hq)
  rw [hd] at hd'
  generalize el (rwI R i) i = g at *
  obtain ⟨u, hu⟩ : ∃ u, 10 * g = u := ⟨_, rfl⟩
  rw [hu] at hg1 hq
  have hq1 : 0 ≤ q ∧ q ≤ 600000000000 := by
    rw [← hq]
    refine ⟨Int.ediv_nonneg (by omega) (by omega), ?_⟩
    exact Int.le_trans (Int.ediv_le_self _ (by omega)) (by omega)
  have e1 : (x + u - 1).tdiv u = q := by rw [Int.tdiv_eq_ediv_of_nonneg (by omega), hq]
  have r1 := wrapS (n := u) (by omega)
  have r1' := wrapS' (n := u) (by omega)
  have r2 := wrapS (n := x + u) (by omega)
  have r2' := wrapS' (n := x + u) (by omega)
  have r3 := wrapS (n := x + u - 1) (by omega)
  have r3' := wrapS' (n := x + u - 1) (by omega)
  have r4 := wrapS (n := q) (by omega)
  have r4' := wrapS' (n := q) (by omega)
  have z : (u == 0) = false := by simp; omega
  have hu0 : ¬ u = 0 := by omega
  have HD := Lib.hid hd'
  rw [hp.1] at HN ⊢
  clear hr hv hok hp hd hints hq1 hx hx1 hd' hb1 hq HR HV
  unfold lkV
  go_enter Try.func56, Try.ntmps56
  by_cases h5 : 10000 < q
  · rw [if_neg (by omega)] at HD
    go_wp2_with (go_at_call 43; ((with_reducible refine HN.out.mono ?_); rintro e w1 ⟨rfl, hb⟩))
    go_ret
    exact ⟨ret_int HD.out.symm, HB.out.b.trans (hb.mono (by simp))⟩
  · have hq2 : (if q < 10000 then q else 10000) = q := by split <;> omega
    rw [hq2] at HD
    clear hq2
    go_wp2_with (go_at_call 43; ((with_reducible refine HN.out.mono ?_); rintro e w1 ⟨rfl, hb⟩))
    go_ret
    exact ⟨ret_int HD.out.symm, HB.out.b.trans (hb.mono (by simp))⟩
end Go.Proofs.Ytlgcacoggikfcaa
