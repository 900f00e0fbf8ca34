/-
  What the models of LinksValid and LinksMeet, and their parts, answer. Conditions: rows and lists can be read; the disturbance: valid links, as many powers.
-/
import Derived.Test.YtgdfjbdpidileaaPw3
namespace Go.Proofs.Ytgdfjbdpidileaa
open Go.RowKit

theorem l1In_pw (n lo hi : Int) (b : Bool) (w : World) (h : decide (lo ≤ n ∧ n ≤ hi) = b) : Calls Try.prog 12 #[.int .i64 n, .int .i64 lo, .int .i64 hi] w fun e w' => e = .returned (.bool b) ∧ w = w' := by
  subst h
  rw [Bool.decide_and]
  exact l1In_any n lo hi w
theorem rowOk_iff {R : List (List Int)} {k : Nat} (h : (rwI R k).length = R.length) (hg : 1 ≤ el (rwI R k) k ∧ el (rwI R k) k ≤ 1000) (hin : RowIn R.length (rwI R k)) : RowOk R.length k (rwI R k) := ⟨h, hin, hg.1⟩
set_option maxHeartbeats 2000000 in
theorem specLinksValid_any (a : Option Addr) (c : Nat) (R : List (List Int)) (N T : Int) (w : World) (hr : RowsL w w.heap.size a R) :
    Calls Try.prog 6 #[.agg #[.slice a R.length c, .int .i64 N, .int .i64 T]] w fun e w' => e = .returned (.bool (decide (LkOk R N T))) ∧ Below w.heap.size w w' := by
  have HB := Lib.hid (lbox_new w a R.length c N T 25)
  have HR : Hid (RowsL (w.alloc (.cells #[.slice a R.length c, .int .i64 N, .int .i64 T] 25)) w.heap.size a R) := hr.below HB.out.b
  have hbg := HB.out.g
  have hbn := HB.out.n
  have hbt := HB.out.t
  clear hr
  by_cases h1 : 1 ≤ R.length ∧ R.length ≤ 5
  · have H1 := Lib.hid (fun W => l1In_pw (R.length : Int) 1 5 true W (decide_eq_true (by omega)))
    by_cases h2 : 1 ≤ N ∧ N ≤ 1000
    · have H2 := Lib.hid (fun W => l1In_pw N 1 1000 true W (decide_eq_true h2))
      by_cases h3 : 1 ≤ T ∧ T ≤ 100
      · have H3 := Lib.hid (fun W => l1In_pw T 1 100 true W (decide_eq_true h3))
        have hn5 := h1.2
        have HE : Hid (RowsTo R R.length → LkOk R N T) := fun h => ⟨h1, h2, h3, h⟩
        clear h1 h2 h3
        go_enter Try.func6, Try.ntmps6
        go_wp2_with (go_at_call 12; (first | ((with_reducible refine (H1.out _).mono ?_); rintro e w1 ⟨rfl, rfl⟩) | ((with_reducible refine (H2.out _).mono ?_); rintro e w1 ⟨rfl, rfl⟩) | ((with_reducible refine (H3.out _).mono ?_); rintro e w1 ⟨rfl, rfl⟩)))
        generalize w.alloc (.cells #[.slice a R.length c, .int .i64 N, .int .i64 T] 25) = W at *
        clear H1 H2 H3
        go_loop [4] (fun x => ∃ k : Nat, k ≤ R.length ∧ x = .int .i64 k ∧ RowsTo R k) (fun x => R.length - (intOf x).toNat)
        case atStart => exact ⟨0, Nat.zero_le _, rfl, fun i hi => absurd hi (by omega)⟩
        case round =>
          obtain ⟨k, hk, rfl, hgood⟩ := hrel
          have HG := Lib.hid hgood
          clear hgood
          by_cases hlt : k < R.length
          · obtain ⟨b, off, ad, cp, rfl, hrow, _, _, hin⟩ := HR.out.at_ hlt
            have HI := Lib.hid hin
            clear hin
            by_cases h4 : (rwI R k).length = R.length
            · rw [h4] at hrow
              have z : ((R.length : Int) != (R.length : Int)) = false := by simp
              obtain ⟨b1, off1, rfl, hb1, hc1⟩ := HI.out.at_ (i := k) (by rw [h4]; exact hlt)
              have H4 := Lib.hid h4
              by_cases h5 : 1 ≤ el (rwI R k) k ∧ el (rwI R k) k ≤ 1000
              · have H5 := Lib.hid (fun W => l1In_pw (el (rwI R k) k) 1 1000 true W (decide_eq_true h5))
                have HG5 := Lib.hid h5
                clear h4 h5 hb1
                go_wp2_with (go_at_call 12; ((with_reducible refine (H5.out _).mono ?_); rintro e w1 ⟨rfl, rfl⟩))
                clear H5 z
                go_loop [5] (fun x => ∃ m : Nat, m ≤ R.length ∧ x = .int .i64 m ∧ RowIn m (rwI R k)) (fun x => R.length - (intOf x).toNat)
                case atStart => exact ⟨0, Nat.zero_le _, rfl, fun i hi => absurd hi (by omega)⟩
                case round =>
                  obtain ⟨m, hm, rfl, hgood2⟩ := hrel
                  have HG2 := Lib.hid hgood2
                  clear hgood2
                  by_cases hlt2 : m < R.length
                  · obtain ⟨b2, off2, he2, hb2, hc2⟩ := HI.out.at_ (i := m) (by rw [H4.out]; exact hlt2)
                    injection he2 with he2
                    injection he2 with he2 he3 _
                    subst he2 he3
                    by_cases h6 : 0 ≤ el (rwI R k) m ∧ el (rwI R k) m ≤ 1000
                    · have H6 := Lib.hid (fun W => l1In_pw (el (rwI R k) m) 0 1000 true W (decide_eq_true h6))
                      have HT := Lib.hid (rowIn_next HG2.out h6)
                      clear h6 hb2
                      go_wp2_with (go_at_call 12; ((with_reducible refine (H6.out _).mono ?_); rintro e w1 ⟨rfl, rfl⟩))
                      go_round
                      case rel => exact ⟨m + 1, by omega, by go_num, HT.out⟩
                      case measure => simp [intOf]; omega
                    · have H6 := Lib.hid (fun W => l1In_pw (el (rwI R k) m) 0 1000 false W (decide_eq_false h6))
                      have HF : Hid (decide (LkOk R N T) = false) := decide_eq_false fun h => h6 ((h.2.2.2 k hlt).2.1 m hlt2)
                      clear h6 hb2
                      go_wp2_with (go_at_call 12; ((with_reducible refine (H6.out _).mono ?_); rintro e w1 ⟨rfl, rfl⟩))
                      go_ret
                      exact ⟨ret_bool HF.out.symm, HB.out.b⟩
                  · obtain rfl : R.length = m := by omega
                    have HT := Lib.hid (rowsTo_next HG.out (rowOk_iff H4.out HG5.out HG2.out))
                    go_wp2
                    go_round
                    case rel => exact ⟨k + 1, by omega, by go_num, HT.out⟩
                    case measure => simp [intOf]; omega
              · have H5 := Lib.hid (fun W => l1In_pw (el (rwI R k) k) 1 1000 false W (decide_eq_false h5))
                have HF : Hid (decide (LkOk R N T) = false) := decide_eq_false fun h => h5 ⟨(h.2.2.2 k hlt).2.2, ((h.2.2.2 k hlt).2.1 k hlt).2⟩
                clear h4 h5 hb1
                go_wp2_with (go_at_call 12; ((with_reducible refine (H5.out _).mono ?_); rintro e w1 ⟨rfl, rfl⟩))
                go_ret
                exact ⟨ret_bool HF.out.symm, HB.out.b⟩
            · have z : (((rwI R k).length : Int) != (R.length : Int)) = true := by simp; omega
              have HF : Hid (decide (LkOk R N T) = false) := decide_eq_false fun h => h4 (h.2.2.2 k hlt).1
              clear h4
              go_wp2
              go_ret
              exact ⟨ret_bool HF.out.symm, HB.out.b⟩
          · obtain rfl : R.length = k := by omega
            have HF : Hid (decide (LkOk R N T) = true) := decide_eq_true (HE.out HG.out)
            go_wp2
            go_ret
            exact ⟨ret_bool HF.out.symm, HB.out.b⟩
      · have H3 := Lib.hid (fun W => l1In_pw T 1 100 false W (decide_eq_false h3))
        have HF : Hid (decide (LkOk R N T) = false) := decide_eq_false fun h => h3 h.2.2.1
        clear h1 h2 h3
        go_enter Try.func6, Try.ntmps6
        go_wp2_with (go_at_call 12; (first | ((with_reducible refine (H1.out _).mono ?_); rintro e w1 ⟨rfl, rfl⟩) | ((with_reducible refine (H2.out _).mono ?_); rintro e w1 ⟨rfl, rfl⟩) | ((with_reducible refine (H3.out _).mono ?_); rintro e w1 ⟨rfl, rfl⟩)))
        go_ret
        exact ⟨ret_bool HF.out.symm, HB.out.b⟩
    · have H2 := Lib.hid (fun W => l1In_pw N 1 1000 false W (decide_eq_false h2))
      have HF : Hid (decide (LkOk R N T) = false) := decide_eq_false fun h => h2 h.2.1
      clear h1 h2
      go_enter Try.func6, Try.ntmps6
      go_wp2_with (go_at_call 12; (first | ((with_reducible refine (H1.out _).mono ?_); rintro e w1 ⟨rfl, rfl⟩) | ((with_reducible refine (H2.out _).mono ?_); rintro e w1 ⟨rfl, rfl⟩)))
      go_ret
      exact ⟨ret_bool HF.out.symm, HB.out.b⟩
  · have H1 := Lib.hid (fun W => l1In_pw (R.length : Int) 1 5 false W (decide_eq_false (by omega)))
    have HF : Hid (decide (LkOk R N T) = false) := decide_eq_false fun h => h1 h.1
    clear h1
    go_enter Try.func6, Try.ntmps6
    go_wp2_with (go_at_call 12; ((with_reducible refine (H1.out _).mono ?_); rintro e w1 ⟨rfl, rfl⟩))
    go_ret
    exact ⟨ret_bool HF.out.symm, HB.out.b⟩
theorem specLinksValid_is (a : Option Addr) (c : Nat) (R : List (List Int)) (N T : Int) (b : Bool) (w : World) (hr : RowsL w w.heap.size a R) (h : decide (LkOk R N T) = b) :
    Calls Try.prog 6 #[.agg #[.slice a R.length c, .int .i64 N, .int .i64 T]] w fun e w' => e = .returned (.bool b) ∧ Below w.heap.size w w' := by
  subst h; exact specLinksValid_any a c R N T w hr
/-- What a region reads of links: a box, three cells. -/
def MS (w W : World) (q : Nat) (a : Option Addr) (n c : Nat) (N T : Int) (p1 p2 p3 : Addr) (v1 v2 v3 : Value) : Prop := LBox w W q a n c N T ∧ W.cell? p1 = some v1 ∧ W.cell? p2 = some v2 ∧ W.cell? p3 = some v3
def MSC (w W : World) (q : Nat) (a : Option Addr) (n c : Nat) (N T : Int) (p1 p2 p3 : Addr) (v1 v2 v3 : Value) : Prop := Hid (MS w W q a n c N T p1 p2 p3 v1 v2 v3)
section
variable {w W W' : World} {q n c : Nat} {a : Option Addr} {N T : Int} {p1 p2 p3 : Addr} {v1 v2 v3 : Value}
theorem MS.next (h : MS w W q a n c N T p1 p2 p3 v1 v2 v3) (hb : Below W.heap.size W W') : MS w W' q a n c N T p1 p2 p3 v1 v2 v3 :=
  ⟨h.1.next hb, cell_next h.2.1 hb, cell_next h.2.2.1 hb, cell_next h.2.2.2 hb⟩
theorem MS.all (h : MS w W q a n c N T p1 p2 p3 v1 v2 v3) : MSC w W q a n c N T p1 p2 p3 v1 v2 v3 ∧ W.cell? ⟨q, 0, none⟩ = some (.slice a n c) ∧ W.cell? ⟨q, 1, none⟩ = some (.int .i64 N) ∧ W.cell? ⟨q, 2, none⟩ = some (.int .i64 T) ∧
    W.cell? p1 = some v1 ∧ W.cell? p2 = some v2 ∧ W.cell? p3 = some v3 := ⟨h, h.1.g, h.1.n, h.1.t, h.2.1, h.2.2.1, h.2.2.2⟩
theorem MS.all_next {X : Prop} (hb : Below W.heap.size W W') (h : MSC w W q a n c N T p1 p2 p3 v1 v2 v3 ∧ X) : MSC w W' q a n c N T p1 p2 p3 v1 v2 v3 ∧ W'.cell? ⟨q, 0, none⟩ = some (.slice a n c) ∧ W'.cell? ⟨q, 1, none⟩ = some (.int .i64 N) ∧ W'.cell? ⟨q, 2, none⟩ = some (.int .i64 T) ∧
    W'.cell? p1 = some v1 ∧ W'.cell? p2 = some v2 ∧ W'.cell? p3 = some v3 := ((Hid.out h.1).next hb).all
theorem MSC.back {X : Prop} (h : MSC w W q a n c N T p1 p2 p3 v1 v2 v3 ∧ X) : MS w W q a n c N T p1 p2 p3 v1 v2 v3 := Hid.out h.1
/-- The same, and that no block of the round's beginning was changed. -/
theorem MS.begin {W0 : World} (h : MS w W0 q a n c N T p1 p2 p3 v1 v2 v3) : (MSC w (W0.drewN 1) q a n c N T p1 p2 p3 v1 v2 v3 ∧ Below W0.heap.size W0 (W0.drewN 1)) ∧ (W0.drewN 1).cell? ⟨q, 0, none⟩ = some (.slice a n c) ∧ (W0.drewN 1).cell? ⟨q, 1, none⟩ = some (.int .i64 N) ∧ (W0.drewN 1).cell? ⟨q, 2, none⟩ = some (.int .i64 T) :=
  ⟨⟨h.next (below_drewN (Below.refl _ _) 1), below_drewN (Below.refl _ _) 1⟩, h.1.g, h.1.n, h.1.t⟩
theorem MS.begin_next {W0 : World} {X : Prop} (hb : Below W.heap.size W W') (h : (MSC w W q a n c N T p1 p2 p3 v1 v2 v3 ∧ Below W0.heap.size W0 W) ∧ X) :
    (MSC w W' q a n c N T p1 p2 p3 v1 v2 v3 ∧ Below W0.heap.size W0 W') ∧ W'.cell? ⟨q, 0, none⟩ = some (.slice a n c) ∧ W'.cell? ⟨q, 1, none⟩ = some (.int .i64 N) ∧ W'.cell? ⟨q, 2, none⟩ = some (.int .i64 T) :=
  have h1 := (Hid.out h.1.1).next hb
  ⟨⟨h1, Below.next h.1.2 (Nat.le_refl _) hb⟩, h1.1.g, h1.1.n, h1.1.t⟩
theorem MSC.back2 {W0 : World} {X : Prop} (h : (MSC w W q a n c N T p1 p2 p3 v1 v2 v3 ∧ Below W0.heap.size W0 W) ∧ X) : MS w W q a n c N T p1 p2 p3 v1 v2 v3 ∧ Below W0.heap.size W0 W := ⟨Hid.out h.1.1, h.1.2⟩
end
theorem listPostC_grow' {xs : List Int} {w w' : World} {a : Option Addr} {n cap : Nat} (h : Grow .i64 3 w' w.heap.size a n cap xs) (hb : Below w.heap.size w w') : ListPostC xs w (.returned (.slice a n cap)) w' := by
  have e := h.len
  subst e
  exact listPostC_grow h hb
theorem lbox_grown {w W W' : World} {n c : Nat} {a : Option Addr} {N T : Int} (h : LBox w W w.heap.size a n c N T) (hb : Below (w.heap.size + 1) W W') : LBox w W' w.heap.size a n c N T :=
  h.keep (hb.block _ (Nat.lt_succ_self _)) hb.size (h.b.trans (hb.mono (Nat.le_succ _)))
end Go.Proofs.Ytgdfjbdpidileaa
