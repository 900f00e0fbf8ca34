/-
  What LinksValid and LinksMeet, and the power that a link needs, answer. Conditions: rows and lists can be read; the needed power: valid links, as many powers.
-/
import Derived.Test.YtgdfjbdpidileaaPw1
namespace Go.Proofs.Ytgdfjbdpidileaa
open Go.RowKit

def RowsTo (R : List (List Int)) (k : Nat) : Prop := ∀ i, i < k → RowOk R.length i (rwI R i)
theorem rowsTo_next {R : List (List Int)} {k : Nat} (h : RowsTo R k) (h1 : RowOk R.length k (rwI R k)) : RowsTo R (k + 1) := fun j hj => by
  rcases Nat.lt_succ_iff_lt_or_eq.1 hj with h2 | rfl
  · exact h j h2
  · exact h1
set_option maxHeartbeats 2000000 in
theorem linksValid_any (a : Option Addr) (c : Nat) (R : List (List Int)) (N T : Int) (w : World) (hr : RowsL w w.heap.size a R) :
    Calls Try.prog 5 #[lkV a R.length c N T] w fun e w' => e = .returned (.bool (decide (LkOk R N T))) ∧ Below w.heap.size w w' := by
  have HB := Lib.hid (lbox_new w a R.length c N T 25)
  have HR : Hid (RowsL (w.alloc (.cells #[.slice a R.length c, .int .i64 N, .int .i64 T] 25)) w.heap.size a R) := hr.below HB.out.b
  have hbg := HB.out.g
  have hbn := HB.out.n
  have hbt := HB.out.t
  clear hr
  unfold lkV
  by_cases h1 : 1 ≤ R.length ∧ R.length ≤ 5
  · have H1 := Lib.hid (fun W => isBetween_is (R.length : Int) 1 5 true W (decide_eq_true (by omega)))
    by_cases h2 : 1 ≤ N ∧ N ≤ 1000
    · have H2 := Lib.hid (fun W => isBetween_is N 1 1000 true W (decide_eq_true h2))
      by_cases h3 : 1 ≤ T ∧ T ≤ 100
      · have H3 := Lib.hid (fun W => isBetween_is T 1 100 true W (decide_eq_true h3))
        have hn5 := h1.2
        have HE : Hid (RowsTo R R.length → LkOk R N T) := fun h => ⟨h1, h2, h3, h⟩
        clear h1 h2 h3
        go_enter Try.func5, Try.ntmps5
        go_wp2_with (go_at_call 10; (first | ((with_reducible refine (H1.out _).mono ?_); rintro e w1 ⟨rfl, rfl⟩) | ((with_reducible refine (H2.out _).mono ?_); rintro e w1 ⟨rfl, rfl⟩) | ((with_reducible refine (H3.out _).mono ?_); rintro e w1 ⟨rfl, rfl⟩)))
        generalize w.alloc (.cells #[.slice a R.length c, .int .i64 N, .int .i64 T] 25) = W at *
        clear H1 H2 H3
        go_loop [27] (fun x => ∃ k : Nat, k ≤ R.length ∧ x = .int .i64 k ∧ RowsTo R k) (fun x => R.length - (intOf x).toNat)
        case atStart => exact ⟨0, Nat.zero_le _, rfl, fun i hi => absurd hi (by omega)⟩
        case round =>
          obtain ⟨k, hk, rfl, hgood⟩ := hrel
          have HG := Lib.hid hgood
          clear hgood
          by_cases hlt : k < R.length
          · obtain ⟨b, off, ad, cp, rfl, hrow, _, _, hin⟩ := HR.out.at_ hlt
            have HI := Lib.hid (linkGains_any ad cp w.heap.size (rwI R k) k R.length W hin hlt hn5)
            clear hin
            by_cases h4 : RowOk R.length k (rwI R k)
            · rw [decide_eq_true h4] at HI
              have HT := Lib.hid (rowsTo_next HG.out h4)
              clear h4
              go_wp2_with (go_at_call 11; ((with_reducible refine HI.out.mono ?_); rintro e w1 ⟨rfl, rfl⟩))
              go_round
              case rel => exact ⟨k + 1, by omega, by go_num, HT.out⟩
              case measure => simp [intOf]; omega
            · rw [decide_eq_false h4] at HI
              have HF : Hid (decide (LkOk R N T) = false) := decide_eq_false fun h => h4 (h.2.2.2 k hlt)
              clear h4
              go_wp2_with (go_at_call 11; ((with_reducible refine HI.out.mono ?_); rintro e w1 ⟨rfl, rfl⟩))
              go_ret
              exact ⟨ret_bool HF.out.symm, HB.out.b⟩
          · obtain rfl : R.length = k := by omega
            have HF : Hid (decide (LkOk R N T) = true) := decide_eq_true (HE.out HG.out)
            go_wp2
            go_ret
            exact ⟨ret_bool HF.out.symm, HB.out.b⟩
      · have H3 := Lib.hid (fun W => isBetween_is T 1 100 false W (decide_eq_false h3))
        have HF : Hid (decide (LkOk R N T) = false) := decide_eq_false fun h => h3 h.2.2.1
        clear h1 h2 h3
        go_enter Try.func5, Try.ntmps5
        go_wp2_with (go_at_call 10; (first | ((with_reducible refine (H1.out _).mono ?_); rintro e w1 ⟨rfl, rfl⟩) | ((with_reducible refine (H2.out _).mono ?_); rintro e w1 ⟨rfl, rfl⟩) | ((with_reducible refine (H3.out _).mono ?_); rintro e w1 ⟨rfl, rfl⟩)))
        go_ret
        exact ⟨ret_bool HF.out.symm, HB.out.b⟩
    · have H2 := Lib.hid (fun W => isBetween_is N 1 1000 false W (decide_eq_false h2))
      have HF : Hid (decide (LkOk R N T) = false) := decide_eq_false fun h => h2 h.2.1
      clear h1 h2
      go_enter Try.func5, Try.ntmps5
      go_wp2_with (go_at_call 10; (first | ((with_reducible refine (H1.out _).mono ?_); rintro e w1 ⟨rfl, rfl⟩) | ((with_reducible refine (H2.out _).mono ?_); rintro e w1 ⟨rfl, rfl⟩)))
      go_ret
      exact ⟨ret_bool HF.out.symm, HB.out.b⟩
  · have H1 := Lib.hid (fun W => isBetween_is (R.length : Int) 1 5 false W (decide_eq_false (by omega)))
    have HF : Hid (decide (LkOk R N T) = false) := decide_eq_false fun h => h1 h.1
    clear h1
    go_enter Try.func5, Try.ntmps5
    go_wp2_with (go_at_call 10; ((with_reducible refine (H1.out _).mono ?_); rintro e w1 ⟨rfl, rfl⟩))
    go_ret
    exact ⟨ret_bool HF.out.symm, HB.out.b⟩
/-- The test, its answer known. -/
theorem linksValid_is (a : Option Addr) (c : Nat) (R : List (List Int)) (N T : Int) (b : Bool) (w : World) (hr : RowsL w w.heap.size a R) (h : decide (LkOk R N T) = b) :
    Calls Try.prog 5 #[.agg #[.slice a R.length c, .int .i64 N, .int .i64 T]] w fun e w' => e = .returned (.bool b) ∧ Below w.heap.size w w' := by
  subst h; exact linksValid_any a c R N T w hr
end Go.Proofs.Ytgdfjbdpidileaa
