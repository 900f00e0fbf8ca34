/-
  What one step of the powers writes into another list, and what LinksMeet, PowerStep and LeastPowers answer. Conditions: rows and lists can be read; the step: valid links and powers, the other list lies in a block of its own.
-/
import Derived.Test.YtlgcacoggikfcaaPw2
import Derived.Test.YtlgcacoggikfcaaSliceFns
import Derived.Lib.BufferOwn
namespace Go.Proofs.Ytlgcacoggikfcaa
open Go.RowKit

/-- The first k numbers of S, then those of X. -/
def ovr (S X : List Int) (k : Nat) : List Int := S.take k ++ X.drop k
theorem ovr_length {S X : List Int} {k : Nat} (h : S.length = X.length) (hk : k ≤ X.length) : (ovr S X k).length = X.length := by
  simp [ovr]; omega
theorem ovr_zero {S X : List Int} : ovr S X 0 = X := by simp [ovr]
theorem ovr_all {S X : List Int} (h : S.length = X.length) : ovr S X X.length = S := by simp [ovr, ← h]
theorem ovr_set {S X : List Int} {k : Nat} {v : Int} (h : S.length = X.length) (hk : k < X.length) (hv : v = el S k) : (ovr S X k).set k v = ovr S X (k + 1) := by
  refine list_ext9 (by rw [List.length_set, ovr_length h (by omega), ovr_length h (by omega)]) fun i hi => ?_
  rw [List.length_set, ovr_length h (by omega)] at hi
  have g : ∀ m, m ≤ X.length → i < X.length → el (ovr S X m) i = if i < m then el S i else el X i := fun m hm hi => by
    unfold ovr el
    by_cases e : i < m
    · rw [if_pos e, List.getD_eq_getElem?_getD, List.getElem?_append_left (by simp; omega), List.getElem?_take_of_lt e, List.getD_eq_getElem?_getD]
    · rw [if_neg e, List.getD_eq_getElem?_getD, List.getElem?_append_right (by simp; omega), List.getElem?_drop, List.getD_eq_getElem?_getD]
      rw [show m + (i - (S.take m).length) = i by simp; omega]
  rw [g (k + 1) (by omega) hi]
  by_cases e : i = k
  · subst e
    rw [if_pos (by omega), hv]
    unfold el
    rw [List.getD_eq_getElem?_getD, List.getElem?_set_self (by rw [ovr_length h (by omega)]; omega)]
    rfl
  · have e2 : el ((ovr S X k).set k v) i = el (ovr S X k) i := by
      unfold el
      rw [List.getD_eq_getElem?_getD, List.getElem?_set_ne (fun h => e h.symm), List.getD_eq_getElem?_getD]
    rw [e2, g k (by omega) hi]
    by_cases e3 : i < k
    · rw [if_pos e3, if_pos (by omega)]
    · rw [if_neg e3, if_neg (by omega)]
/-- A box that holds links. -/
structure BoxC (W : World) (q : Nat) (a : Option Addr) (n c : Nat) (N T : Int) : Prop where
  g : W.cell? ⟨q, 0, none⟩ = some (.slice a n c)
  n : W.cell? ⟨q, 1, none⟩ = some (.int .i64 N)
  t : W.cell? ⟨q, 2, none⟩ = some (.int .i64 T)
  lt : q < W.heap.size
section
variable {w W W' : World} {q b : Nat} {a : Option Addr} {n c : Nat} {N T : Int}
theorem LBox.box (h : LBox w W q a n c N T) : BoxC W q a n c N T := ⟨h.g, h.n, h.t, h.lt⟩
theorem BoxC.keep (h : BoxC W q a n c N T) (hk : W'.heap[q]? = W.heap[q]?) (hs : W.heap.size ≤ W'.heap.size) : BoxC W' q a n c N T :=
  ⟨by rw [World.cell?_of_block hk]; exact h.g, by rw [World.cell?_of_block hk]; exact h.n, by rw [World.cell?_of_block hk]; exact h.t, Nat.lt_of_lt_of_le h.lt hs⟩
theorem BoxC.next (h : BoxC W q a n c N T) (hb : Below W.heap.size W W') : BoxC W' q a n c N T := h.keep (hb.block q h.lt) hb.size
theorem BoxC.grown (h : BoxC W q a n c N T) (hg : W.grownBy W' (some b)) (hne : q ≠ b) : BoxC W' q a n c N T := h.keep (hg.block q h.lt (fun e => hne (by injection e))) hg.size
theorem RowsL.grown {R : List (List Int)} {B : Nat} (h : RowsL W B a R) (hg : W.grownBy W' (some b)) (hB : B ≤ b) (hs : B ≤ W.heap.size) : RowsL W' W'.heap.size a R :=
  (h.below (⟨hg.os, hg.tape, hg.output, hg.size, fun j hj => hg.block j (by omega) (fun e => by injection e; omega)⟩ : Below B W W')).more (Nat.le_trans hs hg.size)
theorem RowX.grown {xs : List Int} {b' : Nat} (h : RowX W b xs) (hg : W.grownBy W' (some b')) (hne : b ≠ b') : RowX W' b xs := World.rowIs.of_block h (hg.block b h.lt (fun e => hne (by injection e)))
end
/-- A list that can be read, whatever happens to block b. -/
def IntsBut (w : World) (b : Nat) (v : Option Addr) (P : List Int) : Prop := ∀ W, w.grownBy W (some b) → Ints .i64 W W.heap.size v P
theorem intsBut_low {w : World} {b B : Nat} {v : Option Addr} {P : List Int} (h : Ints .i64 w B v P) (hB : B ≤ b) (hs : B ≤ w.heap.size) : IntsBut w b v P := fun _ hg =>
  (h.below (⟨hg.os, hg.tape, hg.output, hg.size, fun j hj => hg.block j (by omega) (fun e => by injection e; omega)⟩ : Below B w _)).more (Nat.le_trans hs hg.size)
theorem intsBut_row {w : World} {b b' : Nat} {P : List Int} (h : RowX w b' P) (hne : b' ≠ b) : IntsBut w b (some ⟨b', 0, none⟩) P := fun _ hg => (h.grown hg hne).ints
set_option maxHeartbeats 1000000 in
theorem stepInto_is (b : Nat) (a v : Option Addr) (c c' cx B : Nat) (R : List (List Int)) (N T : Int) (P X S : List Int) (w : World) (hr : RowsL w B a R) (hB : B ≤ b) (hX : RowX w b X) (hn : X.length = R.length) (hv : IntsBut w b v P)
    (hok : LkOk R N T) (hp : PwOk R.length P) (hS : stL R N T P = S) :
    Calls Try.prog 46 #[.slice (some ⟨b, 0, none⟩) R.length cx, .agg #[.slice a R.length c, .int .i64 N, .int .i64 T], .slice v P.length c'] w fun e w' => e = .returned (.tuple #[]) ∧ RowX w' b S ∧ w.grownBy w' (some b) := by
  have HC0 := Lib.hid (lbox_new w a R.length c N T 25).box
  have HG0 := Lib.hid (World.grownBy_alloc w (.cells #[.slice a R.length c, .int .i64 N, .int .i64 T] 25) (some b))
  have HX0 := Lib.hid (RowX.next hX (alloc_belowX w (.cells #[.slice a R.length c, .int .i64 N, .int .i64 T] 25)))
  have HSl : Hid (S.length = X.length) := by show S.length = X.length; rw [← hS, stL_length, hn]
  have HSe := Lib.hid (fun i (hi : i < R.length) => show stI R N T P i = el S i by rw [← hS, stL_el hi])
  have HN := Lib.hid (fun W (hg : w.grownBy W (some b)) i (hi : i < R.length) => neededPower_is a v c c' R N T P i (el S i) W (RowsL.grown hr hg hB (Nat.le_trans hB (Nat.le_of_lt hX.lt))) (hv W hg) hok hp hi (HSe.out i hi))
  unfold lkV at HN
  have HXl := Lib.hid hn
  have hn5 := hok.1.2
  have hb := hX.lt
  clear hr hX hv hok hp hS hn HSe
  go_enter Try.func46, Try.ntmps46
  go_wp2
  generalize w.alloc (.cells #[.slice a R.length c, .int .i64 N, .int .i64 T] 25) = W0 at *
  go_loopw [9] (fun x wr => ∃ k : Nat, k ≤ R.length ∧ x = .int .i64 k ∧ RowX wr b (ovr S X k) ∧ BoxC wr w.heap.size a R.length c N T ∧ w.grownBy wr (some b)) (fun x _ => R.length - (intOf x).toNat)
  case atStart => exact ⟨0, Nat.zero_le _, rfl, by rw [ovr_zero]; exact HX0.out, HC0.out, HG0.out⟩
  case round =>
    obtain ⟨k, hk, rfl, hrow, hbox, hgr⟩ := hrel
    have HR := Lib.hid hrow
    have HB := Lib.hid hbox
    have HG := Lib.hid hgr
    clear hrow hbox hgr
    by_cases hlt : k < R.length
    · have hbg := HB.out.g
      have hbn := HB.out.n
      have hbt := HB.out.t
      have HP := Lib.hid (HN.out wr HG.out k hlt)
      go_wp2_with fail
      refine HP.out.mono ?_
      rintro e w1 ⟨rfl, b1⟩
      have R1 := Lib.hid (HR.out.next b1)
      have c0 := R1.out.cell (k := k) (by rw [ovr_length HSl.out (by rw [HXl.out]; omega), HXl.out]; exact hlt)
      have f0 := R1.out.frozen k
      have hs := R1.out.set (k := k) (by rw [ovr_length HSl.out (by rw [HXl.out]; omega), HXl.out]; exact hlt) (el S k)
      rw [ovr_set HSl.out (by rw [HXl.out]; exact hlt) rfl] at hs
      have HS := Lib.hid hs
      have G1 := Lib.hid (Lib.grownBy_setB (Lib.grownBy_below HG.out b1) k (.int .i64 (el S k)))
      have B1 := Lib.hid ((HB.out.next b1).grown (Lib.grownBy_setCell w1 b k (.int .i64 (el S k))) (by omega))
      clear b1 hs hbg hbn hbt
      go_wp2
      go_roundw
      case rel => exact ⟨k + 1, by omega, by go_num, HS.out, B1.out, G1.out⟩
      case measure => simp [intOf]; omega
    · obtain rfl : R.length = k := by omega
      go_wp2
      go_end0
      refine ⟨rfl, ?_, HG.out⟩
      have h := HR.out
      rw [← HXl.out, ovr_all HSl.out] at h
      exact h
theorem cell_next {W W' : World} {p : Addr} {v : Value} (hc : W.cell? p = some v) (hb : Below W.heap.size W W') : W'.cell? p = some v := (hb.cell (World.block_lt_of_cell? _ _ hc)).trans hc
theorem meetTo_bad {R : List (List Int)} {N T : Int} {P : List Int} {k : Nat} {x u : Int} (hk : k < R.length) (hu : 10 * el (rwI R k) k * el P k = u) (hx : ndI R N T P k = x) (h : u < x) : decide (MtOk R N T P) = false :=
  decide_eq_false fun hm => by
    have := hm.2.2 k hk
    rw [hu, hx] at this
    omega
set_option maxHeartbeats 2000000 in
theorem linksMeet_any (a v : Option Addr) (c c' : Nat) (R : List (List Int)) (N T : Int) (P : List Int) (w : World) (hr : RowsL w w.heap.size a R) (hv : Ints .i64 w w.heap.size v P) :
    Calls Try.prog 17 #[.agg #[.slice a R.length c, .int .i64 N, .int .i64 T], .slice v P.length c'] w fun e w' => e = .returned (.bool (decide (MtOk R N T P))) ∧ Below w.heap.size w w' := by
  have HB := Lib.hid (lbox_new w a R.length c N T 25)
  have HVal := Lib.hid (fun b (h : decide (LkOk R N T) = b) => linksValid_is a c R N T b _ (hr.next HB.out.b) h)
  have hbg := HB.out.g
  have hbn := HB.out.n
  have hbt := HB.out.t
  by_cases h1 : LkOk R N T
  · have H1 := Lib.hid (HVal.out true (decide_eq_true h1))
    have hn5 := h1.1.2
    have HR := Lib.hid hr
    have HV := Lib.hid hv
    have HPw := Lib.hid (fun W (hx : Ints .i64 W W.heap.size v P) b h => powersValid_is v c' W.heap.size P R.length b W hx hn5 h)
    by_cases h2 : PwOk R.length P
    · have HO := Lib.hid h1
      have HP := Lib.hid h2
      clear hr hv HVal h1
      go_enter Try.func17, Try.ntmps17
      go_wp2_with fail
      refine H1.out.mono ?_
      rintro e w1 ⟨rfl, b1⟩
      have B1 := Lib.hid (HB.out.next b1)
      clear b1 hbg hbn hbt H1
      have hbg := B1.out.g
      have hbn := B1.out.n
      have hbt := B1.out.t
      have H2 := Lib.hid (HPw.out w1 ((HV.out.below B1.out.b).more B1.out.b.size) true (decide_eq_true HP.out))
      clear h2
      go_wp2_with (go_at_call 42; ((with_reducible refine H2.out.mono ?_); rintro e w2 ⟨rfl, rfl⟩))
      clear H2 HPw HB
      go_loopw [21] (fun x wr => ∃ k : Nat, k ≤ R.length ∧ x = .int .i64 k ∧ meetTo R N T P k ∧ LBox w wr w.heap.size a R.length c N T) (fun x _ => R.length - (intOf x).toNat)
      case atStart => exact ⟨0, Nat.zero_le _, rfl, fun i hi => absurd hi (by omega), B1.out⟩
      case round =>
        obtain ⟨k, hk, rfl, hgood, hbox⟩ := hrel
        have HG := Lib.hid hgood
        have HB := Lib.hid hbox
        clear hgood hbox B1 hbg hbn hbt
        have hbg := HB.out.g
        have hbn := HB.out.n
        have hbt := HB.out.t
        by_cases hlt : k < R.length
        · obtain ⟨b, off, ad, cp, rfl, hrow, hcp, hcm, hints⟩ := (HR.out.below HB.out.b).at_ hlt
          rw [(HO.out.2.2.2 k hlt).1] at hrow hcp
          obtain ⟨b1, off1, rfl, hb1, hc1⟩ := hints.at_ (i := k) (by rw [(HO.out.2.2.2 k hlt).1]; exact hlt)
          obtain ⟨b2, off2, rfl, hb2, hc2⟩ := (HV.out.below HB.out.b).at_ (i := k) (by rw [HP.out.1]; exact hlt)
          obtain ⟨x, hx⟩ : ∃ x, ndI R N T P k = x := ⟨_, rfl⟩
          have HN := Lib.hid (fun W hr hv => neededSignal_is (some ⟨b, off, none⟩) (some ⟨b2, off2, none⟩) c c' R N T P k x W hr hv HO.out HP.out hlt hx)
          unfold lkV at HN
          have hx1 := ndI_in HO.out HP.out hlt
          have hg1 := gI_in HO.out hlt
          have hp1 := HP.out.2 k hlt
          have hu1 : 0 ≤ 10 * el (rwI R k) k * el P k ∧ 10 * el (rwI R k) k * el P k ≤ 10000 * 10000 :=
            ⟨Int.mul_nonneg (by omega) hp1.1, Int.mul_le_mul hg1.2 hp1.2 hp1.1 (by decide)⟩
          have HU := Lib.hid (fun u (hu : 10 * el (rwI R k) k * el P k = u) (h : u < x) => meetTo_bad hlt hu hx h)
          have HM := Lib.hid (fun (h : x ≤ 10 * el (rwI R k) k * el P k) => meetTo_next HG.out (by rw [hx]; exact h))
          have HRw := Lib.hid ((HR.out.below HB.out.b).more HB.out.b.size)
          have HVw := Lib.hid ((HV.out.below HB.out.b).more HB.out.b.size)
          rw [hx] at hx1
          generalize el (rwI R k) k = g at *
          generalize el P k = y at *
          obtain ⟨f, hf⟩ : ∃ f, 10 * g = f := ⟨_, rfl⟩
          rw [hf] at hu1 hg1 HU HM
          obtain ⟨u, hu⟩ : ∃ u, f * y = u := ⟨_, rfl⟩
          rw [hu] at hu1 HM
          have HU := Lib.hid (HU.out u hu)
          have r1 := wrapS (n := f) (by omega)
          have r1' := wrapS' (n := f) (by omega)
          have r2 := wrapS (n := u) (by omega)
          have r2' := wrapS' (n := u) (by omega)
          have hPl := HP.out.1
          rw [hPl] at HN ⊢
          clear hb1 hb2 hints hx hx1 hu1 hp1 hPl
          by_cases h3 : u < x
          · have HF := Lib.hid (HU.out h3)
            go_wp2
            go_region_law (first
              | (go_simp; go_at_call 43; refine (HN.out _ (HRw.out.drewN 1) (HVw.out.drewN 1)).mono ?_; rintro e w5 ⟨rfl, hb5⟩; have HB5 := Lib.hid ((HB.out.drewN 1).next hb5); have k1 := HB5.out.g; have k2 := HB5.out.n; have k3 := HB5.out.t; have k4 := cell_next (W := wr.drewN 1) hrow hb5; have k5 := cell_next (W := wr.drewN 1) hc1 hb5; have k6 := cell_next (W := wr.drewN 1) hc2 hb5; clear hb5)
              | fail)
            all_goals
              go_wp2
              go_ret
              exact ⟨ret_bool HF.out.symm, HB5.out.b⟩
          · have HF := Lib.hid (HM.out (by omega))
            go_wp2
            go_region_law (first
              | (go_simp; go_at_call 43; refine (HN.out _ (HRw.out.drewN 1) (HVw.out.drewN 1)).mono ?_; rintro e w5 ⟨rfl, hb5⟩; have HB5 := Lib.hid ((HB.out.drewN 1).next hb5); have k1 := HB5.out.g; have k2 := HB5.out.n; have k3 := HB5.out.t; have k4 := cell_next (W := wr.drewN 1) hrow hb5; have k5 := cell_next (W := wr.drewN 1) hc1 hb5; have k6 := cell_next (W := wr.drewN 1) hc2 hb5; clear hb5)
              | fail)
            all_goals
              go_wp2
              go_roundw
              case rel => exact ⟨k + 1, by omega, by go_num, HF.out, HB5.out⟩
              case measure => simp [intOf]; omega
        · obtain rfl : R.length = k := by omega
          have HF : Hid (decide (MtOk R N T P) = true) := decide_eq_true ⟨HO.out, HP.out, HG.out⟩
          go_wp2
          go_ret
          exact ⟨ret_bool HF.out.symm, HB.out.b⟩
    · have HF : Hid (decide (MtOk R N T P) = false) := decide_eq_false fun h => h2 h.2.1
      clear hr hv HVal h1
      go_enter Try.func17, Try.ntmps17
      go_wp2_with fail
      refine H1.out.mono ?_
      rintro e w1 ⟨rfl, b1⟩
      have B1 := Lib.hid (HB.out.next b1)
      clear b1 hbg hbn hbt H1
      have hbg := B1.out.g
      have hbn := B1.out.n
      have hbt := B1.out.t
      have H2 := Lib.hid (HPw.out w1 ((HV.out.below B1.out.b).more B1.out.b.size) false (decide_eq_false h2))
      clear h2
      go_wp2_with (go_at_call 42; ((with_reducible refine H2.out.mono ?_); rintro e w2 ⟨rfl, rfl⟩))
      go_ret
      exact ⟨ret_bool HF.out.symm, B1.out.b⟩
  · have H1 := Lib.hid (HVal.out false (decide_eq_false h1))
    have HF : Hid (decide (MtOk R N T P) = false) := decide_eq_false fun h => h1 h.1
    clear hr hv HVal h1
    go_enter Try.func17, Try.ntmps17
    go_wp2_with (go_at_call 13; ((with_reducible refine H1.out.mono ?_); rintro e w1 ⟨rfl, b1⟩))
    go_ret
    exact ⟨ret_bool HF.out.symm, (HB.out.next b1).b⟩
end Go.Proofs.Ytlgcacoggikfcaa
