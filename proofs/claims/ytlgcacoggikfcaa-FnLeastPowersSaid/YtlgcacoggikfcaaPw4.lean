/-
  What PowerStep and LeastPowers answer. Condition: rows and lists can be read.
-/
import Derived.Test.YtlgcacoggikfcaaPw3
namespace Go.Proofs.Ytlgcacoggikfcaa
open Go.RowKit

theorem zeros_rep (n : Nat) (F : Nat → Int) : mkX F n 0 = List.replicate n 0 := mkX_start F n
set_option maxHeartbeats 1000000 in
theorem powerStep_any (a v : Option Addr) (c c' : Nat) (R : List (List Int)) (N T : Int) (P : List Int) (w : World) (hr : RowsL w w.heap.size a R) (hv : Ints .i64 w w.heap.size v P) :
    Calls Try.prog 19 #[.agg #[.slice a R.length c, .int .i64 N, .int .i64 T], .slice v P.length c'] w (ListPostC (stOr R N T P) w) := by
  have HB := Lib.hid (lbox_new w a R.length c N T 25)
  have HVal := Lib.hid (fun b (h : decide (LkOk R N T) = b) => linksValid_is a c R N T b _ (hr.next HB.out.b) h)
  have hbg := HB.out.g
  have hbn := HB.out.n
  have hbt := HB.out.t
  by_cases h1 : LkOk R N T
  · have H1 := Lib.hid (HVal.out true (decide_eq_true h1))
    have hn5 := h1.1.2
    have HR := Lib.hid hr
    have HV := Lib.hid hv
    have HPw := Lib.hid (fun W (hx : Ints .i64 W W.heap.size v P) b h => powersValid_is v c' W.heap.size P R.length b W hx hn5 h)
    by_cases h2 : PwOk R.length P
    · have HO := Lib.hid h1
      have HP := Lib.hid h2
      have HE := Lib.hid (stOr_yes h1 h2)
      have hPl := h2.1
      have hmk := makeX R.length (by omega)
      clear hr hv HVal h1
      go_enter Try.func19, Try.ntmps19
      go_wp2_with fail
      refine H1.out.mono ?_
      rintro e w1 ⟨rfl, b1⟩
      have B1 := Lib.hid (HB.out.next b1)
      clear b1 hbg hbn hbt H1
      have hbg := B1.out.g
      have hbn := B1.out.n
      have hbt := B1.out.t
      have H2 := Lib.hid (HPw.out w1 ((HV.out.below B1.out.b).more B1.out.b.size) true (decide_eq_true HP.out))
      have B2 := Lib.hid (B1.out.next (alloc_belowX w1 (.cells (madeCells #[.int .i64 0] R.length) 3)))
      have R0 := Lib.hid (rowX_made w1 (fun _ => 0) R.length)
      have hw1 := B1.out.b.size
      have HS := Lib.hid (stepInto_is w1.heap.size a v c c' R.length w1.heap.size R N T P (mkX (fun _ => 0) R.length 0) (stL R N T P) (w1.alloc (.cells (madeCells #[.int .i64 0] R.length) 3))
        (((HR.out.below B1.out.b).more hw1).below (alloc_belowX w1 (.cells (madeCells #[.int .i64 0] R.length) 3))) (Nat.le_refl _) R0.out (mkX_length _ _ _)
        (intsBut_low (((HV.out.below B1.out.b).more hw1).below (alloc_belowX w1 (.cells (madeCells #[.int .i64 0] R.length) 3))) (Nat.le_refl _) (by simp)) HO.out HP.out rfl)
      rw [hPl] at H2 HS ⊢
      clear h2 hPl
      have hlt := B1.out.lt
      go_wp2_with (go_at_call 42; ((with_reducible refine H2.out.mono ?_); rintro e w2 ⟨rfl, rfl⟩))
      clear H2 HPw HB
      go_wp2_with fail
      refine HS.out.mono ?_
      rintro e w3 ⟨rfl, hrow, hgr⟩
      go_wp2
      go_ret
      rw [HE.out]
      exact rowX_post hrow (by rw [stL_length]; unfold maxLen; omega) hw1 ((B2.out.b).grown hgr (by simp; omega) (fun k hk => by injection hk; omega)) stL_length.symm
    · have HE := Lib.hid (stOr_no2 (N := N) (T := T) h2)
      clear hr hv HVal h1
      go_enter Try.func19, Try.ntmps19
      go_wp2_with fail
      refine H1.out.mono ?_
      rintro e w1 ⟨rfl, b1⟩
      have B1 := Lib.hid (HB.out.next b1)
      clear b1 hbg hbn hbt H1
      have hbg := B1.out.g
      have hbn := B1.out.n
      have hbt := B1.out.t
      have H2 := Lib.hid (HPw.out w1 ((HV.out.below B1.out.b).more B1.out.b.size) false (decide_eq_false h2))
      clear h2
      go_wp2_with (go_at_call 42; ((with_reducible refine H2.out.mono ?_); rintro e w2 ⟨rfl, rfl⟩))
      go_ret
      rw [HE.out]
      exact listPostC_nil B1.out.b
  · have H1 := Lib.hid (HVal.out false (decide_eq_false h1))
    have HE := Lib.hid (stOr_no1 (P := P) h1)
    clear hr hv HVal h1
    go_enter Try.func19, Try.ntmps19
    go_wp2_with (go_at_call 13; ((with_reducible refine H1.out.mono ?_); rintro e w1 ⟨rfl, b1⟩))
    go_ret
    rw [HE.out]
    exact listPostC_nil (HB.out.next b1).b
/-- LeastPowers' answer. -/
def LpPost (R : List (List Int)) (N T : Int) (w : World) (e : Ending) (w' : World) : Prop :=
  ∃ v c, e = .returned (.tuple #[.slice v (lpL R N T).length c, .bool (decide (MtOk R N T (lpL R N T)))]) ∧ ((lpL R N T).length ≤ c ∧ c ≤ maxLen) ∧ OwnInts .i64 3 w' w.heap.size v (lpL R N T) ∧ Below w.heap.size w w'
theorem lpPost_of {R : List (List Int)} {N T : Int} {w w' : World} {v : Option Addr} {n c : Nat} {L : List Int} {b : Bool} (hL : lpL R N T = L) (hn : n = L.length) (hb : decide (MtOk R N T L) = b)
    (h : ListPostC L w (.returned (.slice v n c)) w') : LpPost R N T w (.returned (.tuple #[.slice v n c, .bool b])) w' := by
  obtain ⟨v', c', e, h1, h2, h3⟩ := h
  injection e with e
  injection e with e1 e2 e3
  subst hL hb hn e1 e3
  exact ⟨v, c, rfl, h1, h2, h3⟩
/-- What is left to climb, read out of the list in memory. -/
def cellI (o : Option Value) : Int := match o with | some (.int _ n) => n | _ => 0
def memR (n : Nat) (v : Value) (W : World) : Nat := match v with | .slice (some a) _ _ => (sqS (fun i => 10000 - cellI (W.cell? ⟨a.block, i, none⟩)) n).toNat | _ => 0
theorem memR_is {R : List (List Int)} {N T : Int} {W : World} {b l c k : Nat} (h : RowX W b (itL R N T k)) : memR R.length (.slice (some ⟨b, 0, none⟩) l c) W = itR R N T k := by
  show (sqS _ _).toNat = (sqS _ _).toNat
  rw [sqS_congr (g := fun i => 10000 - (lkOf R N T).it 10000 k i) fun i hi => ?_]
  · rfl
  · rw [h.cell (by rw [itL_length]; exact hi), ← itL_it k i hi]
    rfl
/-- The two lists of the call: the powers after k steps and after k + 1. -/
def TwoX (w W : World) (R : List (List Int)) (N T : Int) (a : Option Addr) (c k : Nat) (s x : Value) : Prop :=
  ∃ b1 b2, s = .slice (some ⟨b1, 0, none⟩) R.length R.length ∧ x = .slice (some ⟨b2, 0, none⟩) R.length R.length ∧ b1 ≠ b2 ∧ w.heap.size < b1 ∧ w.heap.size < b2 ∧ RowX W b1 (itL R N T k) ∧ RowX W b2 (itL R N T (k + 1)) ∧
    BoxC W w.heap.size a R.length c N T ∧ Below w.heap.size w W
theorem rowX_zero (w : World) (n : Nat) : RowX (w.alloc (.cells (madeCells #[.int .i64 0] n) 3)) w.heap.size (List.replicate n 0) := by
  have h := rowX_made w (fun _ => 0) n
  rw [mkX_start] at h
  exact h
theorem BoxC.drewN {W : World} {q n c : Nat} {a : Option Addr} {N T : Int} (h : BoxC W q a n c N T) (m : Nat) : BoxC (W.drewN m) q a n c N T := ⟨h.g, h.n, h.t, h.lt⟩
/-- Two lists of the call, one of them to be written. -/
def TwoS (w W : World) (R : List (List Int)) (N T : Int) (a : Option Addr) (c k b1 b2 : Nat) (X : List Int) : Prop :=
  b1 ≠ b2 ∧ w.heap.size < b1 ∧ w.heap.size < b2 ∧ RowX W b1 (itL R N T k) ∧ RowX W b2 X ∧ X.length = R.length ∧ BoxC W w.heap.size a R.length c N T ∧ Below w.heap.size w W
theorem stepTwo {w W : World} {R : List (List Int)} {N T : Int} {a : Option Addr} {c k b1 b2 : Nat} {X : List Int} (hr : RowsL w w.heap.size a R) (hok : LkOk R N T) (h : TwoS w W R N T a c k b1 b2 X) :
    Calls Try.prog 46 #[.slice (some ⟨b2, 0, none⟩) R.length R.length, .agg #[.slice a R.length c, .int .i64 N, .int .i64 T], .slice (some ⟨b1, 0, none⟩) R.length R.length] W fun e w' => e = .returned (.tuple #[]) ∧
      TwoX w w' R N T a c k (.slice (some ⟨b1, 0, none⟩) R.length R.length) (.slice (some ⟨b2, 0, none⟩) R.length R.length) := by
  obtain ⟨h1, h2, h3, h4, h5, h6, h7, h8⟩ := h
  have hs := stepInto_is b2 a (some ⟨b1, 0, none⟩) c R.length R.length w.heap.size R N T (itL R N T k) X (itL R N T (k + 1)) W (hr.below h8) (Nat.le_of_lt h3) h5 h6 (intsBut_row h4 h1) hok (itL_ok hok k) rfl
  rw [itL_length] at hs
  refine hs.mono fun e w' => ?_
  rintro ⟨rfl, h9, h10⟩
  exact ⟨rfl, b1, b2, rfl, rfl, h1, h2, h3, h4.grown h10 h1, h9, h7.grown h10 (by omega), h8.grown h10 h8.size (fun j hj => by injection hj; omega)⟩
set_option maxHeartbeats 2000000 in
theorem leastPowers_any (a : Option Addr) (c : Nat) (R : List (List Int)) (N T : Int) (w : World) (hr : RowsL w w.heap.size a R) :
    Calls Try.prog 24 #[.agg #[.slice a R.length c, .int .i64 N, .int .i64 T]] w (LpPost R N T w) := by
  have HB := Lib.hid (lbox_new w a R.length c N T 25)
  have HVal := Lib.hid (fun b (h : decide (LkOk R N T) = b) => linksValid_is a c R N T b _ (hr.next HB.out.b) h)
  have hbg := HB.out.g
  have hbn := HB.out.n
  have hbt := HB.out.t
  by_cases h1 : LkOk R N T
  · have H1 := Lib.hid (HVal.out true (decide_eq_true h1))
    have hn5 := h1.1.2
    have HR := Lib.hid hr
    have HO := Lib.hid h1
    have hmk := makeX R.length (by omega)
    clear hr HVal h1
    go_enter Try.func24, Try.ntmps24
    go_wp2_with fail
    refine H1.out.mono ?_
    rintro e w1 ⟨rfl, b1⟩
    have B1 := Lib.hid (HB.out.next b1)
    clear b1 hbg hbn hbt H1 HB
    have hbg := B1.out.g
    have hbn := B1.out.n
    have hbt := B1.out.t
    have hlt := B1.out.lt
    have hb1 := alloc_belowX w1 (.cells (madeCells #[.int .i64 0] R.length) 3)
    have hb2 := alloc_belowX (w1.alloc (.cells (madeCells #[.int .i64 0] R.length) 3)) (.cells (madeCells #[.int .i64 0] R.length) 3)
    have z1 := (rowX_zero w1 R.length).next hb2
    have z2 := rowX_zero (w1.alloc (.cells (madeCells #[.int .i64 0] R.length) 3)) R.length
    have b3 := (B1.out.next hb1).next hb2
    have e1 : (w1.alloc (.cells (madeCells #[.int .i64 0] R.length) 3)).heap.size = w1.heap.size + 1 := by simp
    rw [e1] at z2
    have S1 : Hid (TwoS w (((w1.alloc (.cells (madeCells #[.int .i64 0] R.length) 3)).alloc (.cells (madeCells #[.int .i64 0] R.length) 3)).drew) R N T a c 0 w1.heap.size (w1.heap.size + 1) (List.replicate R.length 0)) :=
      ⟨by omega, hlt, by omega, z1, z2, by simp, b3.box.drewN 1, (b3.drewN 1).b⟩
    have S2 : Hid (TwoS w (((w1.alloc (.cells (madeCells #[.int .i64 0] R.length) 3)).alloc (.cells (madeCells #[.int .i64 0] R.length) 3)).drew) R N T a c 0 (w1.heap.size + 1) w1.heap.size (List.replicate R.length 0)) :=
      ⟨by omega, by omega, hlt, z2, z1, by simp, b3.box.drewN 1, (b3.drewN 1).b⟩
    have T1 := Lib.hid (stepTwo HR.out HO.out S1.out)
    have T2 := Lib.hid (stepTwo HR.out HO.out S2.out)
    clear hb1 hb2 z1 z2 b3 e1 S1 S2
    go_wp2
    go_region
    all_goals
      go_wp2_with fail
      first
        | with_reducible refine T1.out.mono ?_
        | with_reducible refine T2.out.mono ?_
      rintro e w3 ⟨rfl, htwo⟩
      have HT := Lib.hid htwo
      clear htwo T1 T2 B1 hbg hbn hbt hlt hmk
      go_wp2_with fail
      go_loopw [4, 5] (fun s x wr => ∃ k : Nat, TwoX w wr R N T a c k s x) (fun s _ wr => memR R.length s wr)
      case atStart => exact ⟨0, HT.out⟩
      case round =>
        obtain ⟨k, b1, b2, rfl, rfl, hne, hl1, hl2, hr1, hr2, hbox, hbel⟩ := hrel
        clear HT
        have HR1 := Lib.hid hr1
        have HR2 := Lib.hid hr2
        have HBox := Lib.hid hbox
        have HBel := Lib.hid hbel
        have hbg := hbox.g
        have hbn := hbox.n
        have hbt := hbox.t
        have hEq := slicesEqual_any (some ⟨b1, 0, none⟩) (some ⟨b2, 0, none⟩) R.length R.length wr.heap.size wr.heap.size (itL R N T k) (itL R N T (k + 1)) wr hr1.ints hr2.ints (by rw [itL_length]; omega)
        by_cases he : itL R N T k = itL R N T (k + 1)
        · rw [decide_eq_true he, itL_length, itL_length] at hEq
          have HEq := Lib.hid hEq
          have HL := Lib.hid (lpL_is HO.out he)
          have hMt := fun m => linksMeet_any a (some ⟨b1, 0, none⟩) c R.length R N T (itL R N T k) (wr.drewN m) (((HR.out.below hbel).more hbel.size).drewN m) (hr1.ints.drewN m)
          rw [itL_length] at hMt
          have HMt := Lib.hid hMt
          clear hr1 hr2 hbox hbel hEq he hMt hne
          go_wp2_with fail
          refine HEq.out.mono ?_
          rintro e w4 ⟨rfl, m, rfl⟩
          go_wp2_with fail
          refine (HMt.out m).mono ?_
          rintro e w5 ⟨rfl, b5⟩
          go_wp2
          go_ret2
          exact lpPost_of HL.out (itL_length k).symm rfl (rowX_post (RowX.next (W := wr.drewN m) HR1.out b5) (by rw [itL_length]; unfold maxLen; omega) (by omega) (Below.next (below_drewN HBel.out m) (Nat.le_refl _) b5) (itL_length k).symm)
        · rw [decide_eq_false he, itL_length, itL_length] at hEq
          have HEq := Lib.hid hEq
          have HSt := Lib.hid (fun m => stepTwo (W := wr.drewN m) (k := k + 1) (b1 := b2) (b2 := b1) (X := itL R N T k) HR.out HO.out ⟨fun h => hne h.symm, hl2, hl1, hr2, hr1, itL_length k, hbox.drewN m, below_drewN hbel m⟩)
          have HLt := Lib.hid (itR_lt HO.out he)
          clear hr1 hr2 hbox hbel hEq he hne
          go_wp2_with fail
          refine HEq.out.mono ?_
          rintro e w4 ⟨rfl, m, rfl⟩
          go_wp2_with fail
          refine (HSt.out m).mono ?_
          rintro e w5 ⟨rfl, htwo⟩
          have HT := Lib.hid htwo
          clear htwo
          go_wp2
          go_roundw
          case rel => exact ⟨k + 1, HT.out⟩
          case measure =>
            obtain ⟨c1, c2, e1, _, _, _, _, hc, _⟩ := HT.out
            rw [e1, memR_is hc, memR_is HR1.out]
            exact HLt.out
  · have H1 := Lib.hid (HVal.out false (decide_eq_false h1))
    have HE := Lib.hid (lpL_no h1)
    have HM : Hid (decide (MtOk R N T []) = false) := decide_eq_false fun h => h1 h.1
    clear hr HVal h1
    go_enter Try.func24, Try.ntmps24
    go_wp2_with (go_at_call 13; ((with_reducible refine H1.out.mono ?_); rintro e w1 ⟨rfl, b1⟩))
    go_ret2
    exact lpPost_of HE.out rfl HM.out (listPostC_nil (HB.out.next b1).b)
end Go.Proofs.Ytlgcacoggikfcaa
