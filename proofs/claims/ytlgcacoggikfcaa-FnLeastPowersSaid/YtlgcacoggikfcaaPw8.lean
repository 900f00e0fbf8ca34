/-
  What the model of LeastPowers answers. Condition: the rows can be read.
-/
import Derived.Test.YtlgcacoggikfcaaPw7
namespace Go.Proofs.Ytlgcacoggikfcaa
open Go.RowKit

section
variable {k : IntKind} {t : TypeId} {w w' : World} {B B' : Nat} {a : Option Addr} {xs : List Int}
theorem OwnInts.next9 (h : OwnInts k t w B a xs) (hb : Below w.heap.size w w') : OwnInts k t w' B a xs := fun hne => by
  obtain ⟨b, cap, e, h1, h2, f, h4, h5⟩ := h hne
  exact ⟨b, cap, e, h1, h2, f, h4.of_block (hb.block b h4.lt), h5⟩
theorem OwnInts.more9 (h : OwnInts k t w B a xs) (hB : B' ≤ B) : OwnInts k t w B' a xs := fun hne => by
  obtain ⟨b, cap, e, h1, h2⟩ := h hne
  exact ⟨b, cap, e, Nat.le_trans hB h1, h2⟩
theorem OwnInts.ints9 (h : OwnInts k t w B a xs) : Ints k w w.heap.size a xs := fun hne => by
  obtain ⟨b, cap, e, h1, h2, f, h4, h5⟩ := h hne
  exact ⟨b, 0, e, h4.lt, fun i hi => by rw [Nat.zero_add, h4.cell (by omega), h5 i hi]⟩
theorem RowX.own9 {b : Nat} (h : RowX w b xs) (hB : B ≤ b) : OwnInts .i64 3 w B (some ⟨b, 0, none⟩) xs := fun _ => ⟨b, _, rfl, hB, Nat.le_refl _, _, h, fun _ _ => rfl⟩
end
def memI (n : Nat) (v : Value) (W : World) : Nat := match v with | .slice (some a) _ _ => (sqS (fun i => 10000 - cellI (W.cell? ⟨a.block, a.off + i, none⟩)) n).toNat | _ => 0
theorem memI_is {R : List (List Int)} {N T : Int} {W : World} {B l c k : Nat} {v : Option Addr} (h : Ints .i64 W B v (itL R N T k)) (hn : 0 < R.length) : memI R.length (.slice v l c) W = itR R N T k := by
  obtain ⟨b, off, rfl, _, hc⟩ := h (fun e => by have := itL_length (R := R) (N := N) (T := T) k; rw [e] at this; simp at this; omega)
  show (sqS _ _).toNat = (sqS _ _).toNat
  rw [sqS_congr (g := fun i => 10000 - (lkOf R N T).it 10000 k i) fun i hi => ?_]
  · rfl
  · have := hc i (by rw [itL_length]; exact hi)
    show 10000 - cellI (W.cell? ⟨b, off + i, none⟩) = _
    rw [this, ← itL_it k i hi]
    rfl
def sameTo (A B : List Int) (m : Nat) : Prop := ∀ j, j < m → el A j = el B j
instance (A B : List Int) (m : Nat) : Decidable (sameTo A B m) := inferInstanceAs (Decidable (∀ j, j < m → _ = _))
theorem sameTo_next {A B : List Int} {m : Nat} {x y : Int} {r : Bool} (hx : el A m = x) (hy : el B m = y) (h : decide (x = y) = r) (hs : decide (sameTo A B m) = true) : decide (sameTo A B (m + 1)) = r := by
  subst hx hy h
  rw [decide_eq_decide]
  have hs := of_decide_eq_true hs
  exact ⟨fun h => h m (Nat.lt_succ_self m), fun h j hj => by
    rcases Nat.lt_succ_iff_lt_or_eq.1 hj with h2 | rfl
    · exact hs j h2
    · exact h⟩
theorem sameTo_off {A B : List Int} {m : Nat} (hs : decide (sameTo A B m) = false) : decide (sameTo A B (m + 1)) = false :=
  decide_eq_false fun h => of_decide_eq_false hs fun j hj => h j (by omega)
theorem sameTo_all {A B : List Int} {n : Nat} (hA : A.length = n) (hB : B.length = n) : sameTo A B n ↔ A = B :=
  ⟨fun h => list_ext9 (by rw [hA, hB]) fun i hi => h i (by rw [← hA]; exact hi), fun h j _ => by rw [h]⟩
theorem lpPost_lit0 {R : List (List Int)} {N T : Int} {w w1 : World} (hL : lpL R N T = []) (hb : decide (MtOk R N T []) = false) (h : Below w.heap.size w w1) :
    LpPost R N T w (.returned (.tuple #[.slice (some ⟨w1.heap.size, 0, none⟩) 0 0, .bool false])) (w1.alloc (.cells #[] 3)) :=
  lpPost_of hL rfl hb ⟨_, 0, rfl, ⟨Nat.le_refl _, Nat.zero_le _⟩, fun h => absurd rfl h, h.alloc h.size _⟩
set_option maxHeartbeats 2000000 in
theorem specLeastPowers_any (a : Option Addr) (c : Nat) (R : List (List Int)) (N T : Int) (w : World) (hr : RowsL w w.heap.size a R) :
    Calls Try.prog 25 #[.agg #[.slice a R.length c, .int .i64 N, .int .i64 T]] w (LpPost R N T w) := by
  have HB := Lib.hid (lbox_new w a R.length c N T 25)
  have HVal := Lib.hid (fun b (h : decide (LkOk R N T) = b) => specLinksValid_is a c R N T b _ (hr.next HB.out.b) h)
  have hbg := HB.out.g
  have hbn := HB.out.n
  have hbt := HB.out.t
  by_cases h1 : LkOk R N T
  · have H1 := Lib.hid (HVal.out true (decide_eq_true h1))
    have hn5 := h1.1
    have HR := Lib.hid hr
    have HO := Lib.hid h1
    have hmk := makeX R.length (by omega)
    clear hr HVal h1
    go_enter Try.func25, Try.ntmps25
    go_wp2_with fail
    refine H1.out.mono ?_
    rintro e w1 ⟨rfl, b1⟩
    have B1 := Lib.hid (HB.out.next b1)
    clear b1 hbg hbn hbt H1 HB
    have hbg := B1.out.g
    have hlt := B1.out.lt
    have B2 := Lib.hid (B1.out.next (alloc_belowX w1 (.cells (madeCells #[.int .i64 0] R.length) 3)))
    have Z := Lib.hid (RowX.own9 (rowX_zero w1 R.length) (Nat.le_of_lt hlt))
    go_wp2_with fail
    clear hmk hbg hlt B1
    go_loopw [4] (fun s wr => ∃ (k : Nat) (v : Option Addr) (cv : Nat), s = .slice v R.length cv ∧ (R.length ≤ cv ∧ cv ≤ maxLen) ∧ OwnInts .i64 3 wr w.heap.size v (itL R N T k) ∧ LBox w wr w.heap.size a R.length c N T) (fun s wr => memI R.length s wr)
    case atStart => exact ⟨0, _, _, rfl, ⟨Nat.le_refl _, by unfold maxLen; omega⟩, Z.out, B2.out⟩
    case round =>
      obtain ⟨k, v, cv, rfl, hcv, hown, hbox⟩ := hrel
      have HCv := Lib.hid hcv
      have HOwn := Lib.hid hown
      have HB := Lib.hid hbox
      clear hcv hown hbox Z B2
      have hbg := HB.out.g
      have hbn := HB.out.n
      have hbt := HB.out.t
      have hps := specPowerStep_any a v c cv R N T (itL R N T k) wr ((HR.out.below HB.out.b).more HB.out.b.size) HOwn.out.ints9
      rw [stOr_yes HO.out (itL_ok HO.out k), itL_length] at hps
      have HPs := Lib.hid hps
      clear hps
      go_wp2_with fail
      refine HPs.out.mono ?_
      rintro e w2 ⟨v2, c2, rfl, hc2, hown2, hb2⟩
      have HOwn1 := Lib.hid (HOwn.out.next9 hb2)
      have HOwn2 := Lib.hid (OwnInts.more9 hown2 HB.out.b.size)
      have HC2 := Lib.hid hc2
      have B2 := Lib.hid (HB.out.next hb2)
      have HM0 := Lib.hid (memI_is (l := R.length) (c := cv) HOwn.out.ints9 (by omega))
      clear hown2 hb2 hc2 HPs hbg hbn hbt HB HOwn
      rw [stL_length]
      go_wp2_with fail
      have I1 := Lib.hid HOwn1.out.ints9
      have I2 : Hid (Ints .i64 w2 w2.heap.size v2 (itL R N T (k + 1))) := HOwn2.out.ints9
      go_loopw [6, 7] (fun s x wi => ∃ (m q : Nat) (r : Bool), m ≤ R.length ∧ x = .int .i64 m ∧ s = .bool r ∧ decide (sameTo (itL R N T k) (itL R N T (k + 1)) m) = r ∧ wi = w2.drewN q) (fun _ x _ => R.length - (intOf x).toNat)
      case atStart => exact ⟨0, 0, true, Nat.zero_le _, rfl, rfl, decide_eq_true (fun j hj => absurd hj (by omega)), rfl⟩
      case round =>
        obtain ⟨m, q, r, hm, rfl, rfl, hs, rfl⟩ := hrel
        have HS := Lib.hid hs
        clear hs
        by_cases hlt : m < R.length
        · cases r
          · have HN := Lib.hid (sameTo_off HS.out)
            go_wp2
            go_quiet (fail)
            go_wp2
            go_roundw
            case rel => exact ⟨m + 1, _, false, by omega, by go_num, rfl, HN.out, rfl⟩
            case measure => simp [intOf]; omega
          · obtain ⟨b1, off1, he1, hb1, hc1⟩ := I1.out.at_ (i := m) (by rw [itL_length]; exact hlt)
            obtain ⟨b2, off2, he2, hb2, hc2⟩ := I2.out.at_ (i := m) (by rw [itL_length]; exact hlt)
            subst he1 he2
            obtain ⟨x, hx⟩ : ∃ x, el (itL R N T k) m = x := ⟨_, rfl⟩
            obtain ⟨y, hy⟩ : ∃ y, el (itL R N T (k + 1)) m = y := ⟨_, rfl⟩
            rw [hx] at hc1
            rw [hy] at hc2
            by_cases he : x = y
            · have HN := Lib.hid (sameTo_next hx hy (decide_eq_true he) HS.out)
              subst he
              have z : (x == x) = true := by simp
              clear hx hy hb1 hb2
              go_wp2
              go_quiet (fail)
              go_wp2
              go_roundw
              case rel => exact ⟨m + 1, _, true, by omega, by go_num, rfl, HN.out, rfl⟩
              case measure => simp [intOf]; omega
            · have HN := Lib.hid (sameTo_next hx hy (decide_eq_false he) HS.out)
              have z : (x == y) = false := by simp [he]
              clear hx hy hb1 hb2 he
              go_wp2
              go_quiet (fail)
              go_wp2
              go_roundw
              case rel => exact ⟨m + 1, _, false, by omega, by go_num, rfl, HN.out, rfl⟩
              case measure => simp [intOf]; omega
        · obtain rfl : R.length = m := by omega
          have hbg := (B2.out.drewN q).g
          have hbn := (B2.out.drewN q).n
          have hbt := (B2.out.drewN q).t
          cases r
          · have he : itL R N T k ≠ itL R N T (k + 1) := fun e => by
              have := of_decide_eq_false HS.out
              exact this ((sameTo_all (itL_length k) (itL_length (k + 1))).2 e)
            have HLt := Lib.hid (itR_lt HO.out he)
            clear he
            go_wp2
            go_roundw
            case rel => exact ⟨k + 1, v2, c2, rfl, by have := HC2.out; rw [stL_length] at this; exact this, OwnInts.next9 (w := w2) HOwn2.out (below_drewN (Below.refl _ _) q), B2.out.drewN q⟩
            case measure =>
              rw [HM0.out, memI_is (I2.out.drewN q) (by omega)]
              exact HLt.out
          · have he := (sameTo_all (itL_length k) (itL_length (k + 1))).1 (of_decide_eq_true HS.out)
            have HL := Lib.hid (lpL_is HO.out he)
            have hMt := specLinksMeet_any a v c cv R N T (itL R N T k) (w2.drewN q) (((HR.out.below B2.out.b).more B2.out.b.size).drewN q) (I1.out.drewN q)
            rw [itL_length] at hMt
            have HMt := Lib.hid hMt
            clear hMt he
            go_wp2_with fail
            refine HMt.out.mono ?_
            rintro e w5 ⟨rfl, b5⟩
            go_wp2
            go_ret2
            exact lpPost_of HL.out (itL_length k).symm rfl ⟨v, cv, by rw [itL_length], by rw [itL_length]; exact HCv.out, OwnInts.next9 (w := w2.drewN q) HOwn1.out b5, (B2.out.drewN q).b.trans (b5.mono B2.out.b.size)⟩
  · have H1 := Lib.hid (HVal.out false (decide_eq_false h1))
    have HE := Lib.hid (lpL_no h1)
    have HM : Hid (decide (MtOk R N T []) = false) := decide_eq_false fun h => h1 h.1
    clear hr HVal h1
    go_enter Try.func25, Try.ntmps25
    go_wp2_with (go_at_call 14; ((with_reducible refine H1.out.mono ?_); rintro e w1 ⟨rfl, b1⟩))
    go_ret2
    exact lpPost_lit0 HE.out HM.out (HB.out.next b1).b
end Go.Proofs.Ytlgcacoggikfcaa
