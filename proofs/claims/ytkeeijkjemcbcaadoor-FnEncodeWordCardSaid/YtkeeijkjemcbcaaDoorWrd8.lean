/-
  What DecodeWord answers, for every list; the place of an error; copies of a list. Conditions: a list that can be read; the program's four tables lie in their variables.
-/
import Derived.Test.YtkeeijkjemcbcaaDoorWrd7
import Derived.Lib.SliceRun
namespace Go.Proofs.YtkeeijkjemcbcaaDoor
open Go.RowKit

/-- What DecodeWord answers. -/
def dec6 (xs : List Int) : Option (List Int) :=
  if wok 15 xs then match errsW (co xs) with
    | none => none
    | some p => some (ofN (fixW (co xs) p) 15)
  else none
def decL6 (xs : List Int) : List Int := (dec6 xs).getD []
def decB6 (xs : List Int) : Bool := (dec6 xs).isSome
theorem dec6_no {xs : List Int} (h : wok 15 xs = false) : dec6 xs = none := by simp [dec6, h]
theorem dec6_none {xs : List Int} (h : wok 15 xs = true) (h2 : errsW (co xs) = none) : dec6 xs = none := by simp [dec6, h, h2]
theorem dec6_some {xs : List Int} (h : wok 15 xs = true) {p : List (Nat × Nat)} (h2 : errsW (co xs) = some p) : dec6 xs = some (ofN (fixW (co xs) p) 15) := by simp [dec6, h, h2]
/-- What DecodeWord leaves. -/
def DecP (o : Option (List Int)) (w : World) (e : Ending) (w' : World) : Prop :=
  ∃ a cap, e = .returned (.tuple #[.slice a (o.getD []).length cap, .bool o.isSome]) ∧ ((o.getD []).length ≤ cap ∧ cap ≤ maxLen) ∧ OwnInts .i64 3 w' w.heap.size a (o.getD []) ∧ Below w.heap.size w w'
theorem decP_none {w w' : World} (h : Below w.heap.size w w') : DecP none w (.returned (.tuple #[.slice none 0 0, .bool false])) w' := ⟨none, 0, rfl, ⟨Nat.le_refl _, Nat.zero_le _⟩, fun h => absurd rfl h, h⟩
theorem decP_some {xs : List Int} {w w' : World} {a : Option Addr} {n cap : Nat} (h : Grow .i64 3 w' w.heap.size a n cap xs) (hb : Below w.heap.size w w') : DecP (some xs) w (.returned (.tuple #[.slice a n cap, .bool true])) w' := by
  obtain ⟨a', cap', e, h1, h2, h3⟩ := listPostC_grow h hb
  injection e with e
  injection e with e1 e2 e3
  subst e1 e2 e3
  exact ⟨a, cap, rfl, h1, h2, h3⟩

set_option maxHeartbeats 400000 in
theorem place_any (X v : Nat) (w : World) (hT : Tabs2 w) (hX : X < 16) : Calls Tryd.prog 49 #[.agg #[.int .i64 X, .int .i64 v]] w fun e w' => e = .returned (.int .i64 ((14 - logN X : Nat) : Int)) ∧ Below w.heap.size w w' := by
  have hc : ∀ o, (w.alloc o).cell? ⟨2, X, none⟩ = some (.int .i64 (logN X : Int)) := fun o => (hT.alloc o).log hX
  have HB := Lib.hid (fun o => below_alloc w o)
  have hl := logN_lt hX
  generalize logN X = p at *
  clear hT
  go_enter Tryd.func49, Tryd.ntmps49
  go_wp2
  go_ret
  exact ⟨ret_int (by omega), HB.out _⟩

/-- A new list of the call's own that may be appended to. -/
def NewL (xs : List Int) (w : World) (e : Ending) (w' : World) : Prop :=
  ∃ a n cap, e = .returned (.slice a n cap) ∧ Grow .i64 3 w' w.heap.size a n cap xs ∧ Below w.heap.size w w'
set_option maxHeartbeats 400000 in
theorem clone_any (a : Option Addr) (c : Nat) (xs : List Int) (w : World) (hx : Ints .i64 w w.heap.size a xs) (h0 : 0 < xs.length) (hl : xs.length ≤ 1048576) :
    Calls Tryd.prog 48 #[.slice a xs.length c] w (NewL xs w) := by
  obtain ⟨b, off, rfl, _, _⟩ := hx.at_ h0
  have IA := Lib.hid (fun o => hx.below (below_alloc w o))
  have BA := Lib.hid (fun o => below_alloc w o)
  have hn : ∀ W, (binOp .eql 23 (.slice (some ⟨b, off, none⟩) xs.length c) (.slice none 0 0)).run Tryd.prog W = .ok (.bool false) W := fun W => Lib.run_eql_slice_nil W 23 3 (some ⟨b, off, none⟩) xs.length c 0 0 Tryd.underlying23
  clear hx
  go_enter Tryd.func48, Tryd.ntmps48
  go_wp2_with (at_builtin; refine wpList_appendA (.tmp 5) (.tmp 6) w.heap.size (some ⟨w.heap.size, 0, none⟩) (some ⟨b, off, none⟩) 0 0 xs.length c w.heap.size [] xs rfl rfl rfl rfl (Grow.lit0 _ _ _ _ (Nat.le_refl _)) (IA.out _) rfl (by omega) (by simp) ?_; intro a4 cap4 w4 hg4 hb4 _; rw [Nat.zero_add, List.nil_append] at hg4; have HG4 := Lib.hid hg4; have HB4 := Lib.hid ((BA.out _).trans hb4); clear hg4 hb4)
  go_ret
  exact ⟨_, _, _, rfl, HG4.out, HB4.out⟩

theorem errs_shape {c : Nat → Nat} (hc : Lt16 c) {p : List (Nat × Nat)} (h : errsW c = some p) :
    p = [] ∨ (∃ X v, p = [(X, v)] ∧ 1 ≤ X ∧ X < 16 ∧ v < 16) ∨ ∃ X v Y u, p = [(X, v), (Y, u)] ∧ 1 ≤ X ∧ X < 16 ∧ v < 16 ∧ 1 ≤ Y ∧ Y < 16 ∧ u < 16 := by
  have hl := errs6_sound (s := syn6 c) (syn6_lt hc) h
  match p, hl with
  | [], _ => exact .inl rfl
  | [(X, v)], ⟨⟨h1, h2, h3⟩, _⟩ => exact .inr (.inl ⟨X, v, rfl, h1, h2, h3⟩)
  | [(X, v), (Y, u)], ⟨⟨h1, h2, h3, h4, h5⟩, _⟩ => exact .inr (.inr ⟨X, v, Y, u, rfl, h1, by omega, h4, by omega, h3, h5⟩)
theorem ofN_set (c : Nat → Nat) {m v n : Nat} (hm : m < n) : (ofN c n).set m ((c m ^^^ v : Nat) : Int) = ofN (upd c m v) n := by
  refine list_el (by simp [ofN_length]) fun i hi => ?_
  have hin : i < n := by simpa [ofN_length] using hi
  rw [ofN_el hin]
  by_cases h : i = m
  · subst h
    rw [upd_at]
    simp [el, ofN_length, hm]
  · rw [upd_ne h, ← ofN_el (c := c) hin]
    simp [el, List.getElem?_set_ne (show m ≠ i by omega)]
/-- The list that is corrected, in a block of the call's own. -/
def DS (w W : World) (cb n cap : Nat) (c : Nat → Nat) : Prop := Grow .i64 3 W w.heap.size (some ⟨cb, 0, none⟩) n cap (ofN c 15) ∧ Tabs2 w ∧ Below w.heap.size w W
theorem DS.tabs {w W : World} {cb n cap : Nat} {c : Nat → Nat} (h : DS w W cb n cap c) : Tabs2 W := h.2.1.next h.2.2
theorem DS.drewN {w W : World} {cb n cap : Nat} {c : Nat → Nat} (h : DS w W cb n cap c) (m : Nat) : DS w (W.drewN m) cb n cap c := ⟨h.1.drewN m, h.2.1, below_drewN h.2.2 m⟩
theorem DS.next {w W W' : World} {cb n cap : Nat} {c : Nat → Nat} (h : DS w W cb n cap c) (hb : Below W.heap.size W W') : DS w W' cb n cap c := ⟨h.1.below hb, h.2.1, Below.next h.2.2 (Nat.le_refl _) hb⟩
theorem DS.len {w W : World} {cb n cap : Nat} {c : Nat → Nat} (h : DS w W cb n cap c) : n = 15 := by have := h.1.len; rw [ofN_length] at this; exact this.symm
theorem DS.cell {w W : World} {cb n cap : Nat} {c : Nat → Nat} (h : DS w W cb n cap c) {i : Nat} (hi : i < 15) : W.cell? ⟨cb, i, none⟩ = some (.int .i64 (c i)) ∧ W.frozen? ⟨cb, i, none⟩ = false := by
  obtain rfl := h.len
  obtain ⟨b, off, e, _, hc⟩ := h.1.ints.at_ (i := i) (by rw [ofN_length]; exact hi)
  injection e with e
  injection e with e1 e2
  subst e1 e2
  rw [Nat.zero_add, ofN_el hi] at hc
  exact ⟨hc, (grow_cell h.1 hi).2⟩
theorem DS.set {w W : World} {cb n cap : Nat} {c : Nat → Nat} (h : DS w W cb n cap c) {P v x : Nat} (hP : P < 15) (hx : x = c P ^^^ v) : DS w (W.setCell ⟨cb, P, none⟩ (.int .i64 (x : Int))) cb n cap (upd c P v) := by
  obtain ⟨b, e1, e2⟩ := h.1.addr0 (by simp)
  injection e1 with e1
  injection e1 with e1
  subst e1
  refine ⟨?_, h.2.1, h.2.2.setCell (by exact e2) _⟩
  have := h.1.set P (x : Int)
  rwa [hx, ofN_set c hP, ← hx] at this
theorem grow_some {k : IntKind} {t : TypeId} {w : World} {base n cap : Nat} {a : Option Addr} {xs : List Int} (h : Grow k t w base a n cap xs) (h0 : 0 < xs.length) : a ≠ none := by
  obtain ⟨b, f, e, _⟩ := h.row (by rw [← h.len]; exact h0)
  rw [e]; simp
/-- The second error's two cells. -/
def EBs (W : World) (eb Y u : Nat) : Prop := eb < W.heap.size ∧ W.cell? ⟨eb, 2, none⟩ = some (.int .i64 Y) ∧ W.cell? ⟨eb, 3, none⟩ = some (.int .i64 u)
theorem EBs.next {W W' : World} {eb Y u : Nat} (h : EBs W eb Y u) (hb : Below W.heap.size W W') : EBs W' eb Y u := ⟨Nat.lt_of_lt_of_le h.1 hb.size, (hb.cell h.1).trans h.2.1, (hb.cell h.1).trans h.2.2⟩
theorem EBs.set {W : World} {eb Y u cb P : Nat} {v : Value} (h : EBs W eb Y u) (hne : eb < cb) : EBs (W.setCell ⟨cb, P, none⟩ v) eb Y u := by
  have hb : Below cb W (W.setCell ⟨cb, P, none⟩ v) := (Below.refl cb W).setCell (Nat.le_refl _) v
  exact ⟨Nat.lt_of_lt_of_le h.1 hb.size, (hb.cell hne).trans h.2.1, (hb.cell hne).trans h.2.2⟩
set_option maxHeartbeats 4000000 in
theorem decodeWord_any (a : Option Addr) (c : Nat) (xs : List Int) (w : World) (hx : Ints .i64 w w.heap.size a xs) (hT : Tabs2 w) (hZ : ZerTab w) :
    Calls Tryd.prog 26 #[.slice a xs.length c] w (DecP (dec6 xs) w) := by
  cases hk : wok 15 xs
  · have HV := Lib.hid (symbolsValid_15 a c w.heap.size xs w false hx hk)
    have HE := Lib.hid (dec6_no hk)
    clear hx hT hZ hk
    go_enter Tryd.func26, Tryd.ntmps26
    go_wp2_with (go_at_call 34; refine HV.out.mono ?_; rintro e w' ⟨rfl, rfl⟩)
    go_ret2
    rw [HE.out]
    exact decP_none (Below.refl _ _)
  · have HV := Lib.hid (symbolsValid_15 a c w.heap.size xs w true hx hk)
    have HS := Lib.hid (syndromesOf_any a c xs w hx hk hT hZ)
    have hc16 := wok_lt hk
    have HErr := Lib.hid (fun W hW => errorsOf_any (syn6 (co xs) 0) (syn6 (co xs) 1) (syn6 (co xs) 2) (syn6 (co xs) 3) W hW (syn6_lt hc16 0) (syn6_lt hc16 1) (syn6_lt hc16 2) (syn6_lt hc16 3))
    have HX := Lib.hid hx
    have HT := Lib.hid hT
    have hl := (wok_parts hk).1
    have HL := Lib.hid hl
    have HC := Lib.hid (fun W hW => clone_any a c xs W hW (by omega) (by omega))
    have HEQ := Lib.hid (wok_eq hk)
    have hl20 : xs.length ≤ 20 := by omega
    have hl0 : 0 < xs.length := by omega
    cases ho : errsW (co xs) with
    | none =>
      have HE := Lib.hid (dec6_none hk ho)
      rw [show errs6 (syn6 (co xs) 0) (syn6 (co xs) 1) (syn6 (co xs) 2) (syn6 (co xs) 3) = none from ho] at HErr
      clear hx hT hZ hk ho hl hc16
      generalize syn6 (co xs) 0 = s0 at *
      generalize syn6 (co xs) 1 = s1 at *
      generalize syn6 (co xs) 2 = s2 at *
      generalize syn6 (co xs) 3 = s3 at *
      unfold arr4 at HS HErr
      go_enter Tryd.func26, Tryd.ntmps26
      go_wp2_with (first
        | (go_at_call 34; refine HV.out.mono ?_; rintro e w' ⟨rfl, rfl⟩)
        | (go_at_call 42; refine HS.out.mono ?_; rintro e w1 ⟨rfl, b1⟩; have B1 := Lib.hid b1; clear b1)
        | (go_at_call 47; refine (HErr.out w1 (HT.out.next B1.out)).mono ?_; rintro e w2 ⟨rfl, b2⟩; have B2 := Lib.hid (Below.next B1.out (Nat.le_refl _) b2); clear b2))
      go_ret2
      rw [HE.out]
      exact decP_none B2.out
    | some p =>
      have HE := Lib.hid (dec6_some hk ho)
      have hsh := errs_shape hc16 ho
      rw [show errs6 (syn6 (co xs) 0) (syn6 (co xs) 1) (syn6 (co xs) 2) (syn6 (co xs) 3) = some p from ho] at HErr
      have H16 := Lib.hid hc16
      clear hx hT hZ hk ho hl hc16
      generalize syn6 (co xs) 0 = s0 at *
      generalize syn6 (co xs) 1 = s1 at *
      generalize syn6 (co xs) 2 = s2 at *
      generalize syn6 (co xs) 3 = s3 at *
      unfold arr4 at HS HErr
      rcases hsh with rfl | ⟨X, v, rfl, hX1, hX, hv⟩ | ⟨X, v, Y, u, rfl, hX1, hX, hv, hY1, hY, hu⟩
      · go_enter Tryd.func26, Tryd.ntmps26
        go_wp2_with (first
          | (go_at_call 34; refine HV.out.mono ?_; rintro e w' ⟨rfl, rfl⟩)
          | (go_at_call 42; refine HS.out.mono ?_; rintro e w1 ⟨rfl, b1⟩; have B1 := Lib.hid b1; clear b1)
          | (go_at_call 47; refine (HErr.out w1 (HT.out.next B1.out)).mono ?_; rintro e w2 ⟨rfl, b2⟩; have B2 := Lib.hid (Below.next B1.out (Nat.le_refl _) b2); clear b2)
          | (go_at_call 48; refine (HC.out w2 (HX.out.next B2.out)).mono ?_; rintro e w3 ⟨ad, n, cap, rfl, hg, b3⟩; have G3 := Lib.hid (hg.base_le B2.out.size); obtain ⟨cb, rfl, hcb⟩ := hg.addr0 (grow_some hg hl0); have B3 := Lib.hid (Below.next B2.out (Nat.le_refl _) b3); clear hg b3))
        refine wp_loop_rounds 1 ?_
        rw [rounds_succ]
        go_wp2
        go_ret2
        rw [HE.out]
        have hG := G3.out
        rw [HEQ.out] at hG
        exact decP_some hG B3.out
      · obtain ⟨P, hP⟩ : ∃ P, P = 14 - logN X := ⟨_, rfl⟩
        have hP15 : P < 15 := by omega
        have HPl := Lib.hid (fun W hW => place_any X v W hW hX)
        rw [← hP] at HPl
        have HPP := Lib.hid hP
        clear hP
        go_enter Tryd.func26, Tryd.ntmps26
        go_wp2_with (first
          | (go_at_call 34; refine HV.out.mono ?_; rintro e w' ⟨rfl, rfl⟩)
          | (go_at_call 42; refine HS.out.mono ?_; rintro e w1 ⟨rfl, b1⟩; have B1 := Lib.hid b1; clear b1)
          | (go_at_call 47; refine (HErr.out w1 (HT.out.next B1.out)).mono ?_; rintro e w2 ⟨⟨eb, ec, rfl, helt, hc0, hc1⟩, b2⟩; have B2 := Lib.hid (Below.next B1.out (Nat.le_refl _) b2); have HC0 := Lib.hid hc0; have HC1 := Lib.hid hc1; clear b2 hc0 hc1)
          | (go_at_call 48; refine (HC.out w2 (HX.out.next B2.out)).mono ?_; rintro e w3 ⟨ad, n, cap, rfl, hg, b3⟩; have G3 := Lib.hid (hg.base_le B2.out.size); obtain ⟨cb, rfl, hcb⟩ := hg.addr0 (grow_some hg hl0); have B3 := Lib.hid (Below.next B2.out (Nat.le_refl _) b3); have hc0 := (b3.cell (p := ⟨eb, 0, none⟩) helt).trans HC0.out; have hc1 := (b3.cell (p := ⟨eb, 1, none⟩) helt).trans HC1.out; clear hg b3))
        refine wp_loop_rounds 2 ?_
        rw [rounds_succ]
        go_wp2
        have D4 : Hid (DS w (w3.alloc (.cells #[.int .i64 X, .int .i64 v] 53)) cb n cap (co xs)) := by
          have hG := G3.out
          rw [HEQ.out] at hG
          exact ⟨hG.alloc _, HT.out, B3.out.alloc B3.out.size _⟩
        have e0 : (w3.alloc (.cells #[.int .i64 X, .int .i64 v] 53)).cell? ⟨w3.heap.size, 0, none⟩ = some (.int .i64 X) := cell_of_row _ _ _ _ _ _ (heap_alloc_last _ _)
        have e1 : (w3.alloc (.cells #[.int .i64 X, .int .i64 v] 53)).cell? ⟨w3.heap.size, 1, none⟩ = some (.int .i64 v) := cell_of_row _ _ _ _ _ _ (heap_alloc_last _ _)
        have elt : w3.heap.size < (w3.alloc (.cells #[.int .i64 X, .int .i64 v] 53)).heap.size := by simp
        obtain ⟨cp, hcp⟩ : ∃ cp, cp = co xs P := ⟨_, rfl⟩
        have hcp16 : cp < 16 := by rw [hcp]; exact H16.out P
        obtain ⟨x, hx⟩ : ∃ x, x = co xs P ^^^ v := ⟨_, rfl⟩
        have hxx : bits .xor .i64 (cp : Int) (v : Int) = (x : Int) := by rw [hx, hcp]; exact xor_word _ _ (by have := H16.out P; omega) (by omega)
        have HXX := Lib.hid hx
        have HCP := Lib.hid hcp
        have hPn : P < n := by have := D4.out.len; omega
        have E1 := Lib.hid e1
        clear hx hcp hc0 hc1 G3
        generalize w3.alloc (.cells #[.int .i64 X, .int .i64 v] 53) = W4 at *
        go_region_law (first | (go_simp; go_at_call 49; refine (HPl.out _ (D4.out.drewN 1).tabs).mono ?_; rintro e w5 ⟨rfl, hb5⟩; have D5 := Lib.hid ((D4.out.drewN 1).next hb5); have k5 := (D5.out.cell hP15).1; have f5 := (D5.out.cell hP15).2; rw [← HCP.out] at k5; have v5 := (hb5.cell (p := ⟨w3.heap.size, 1, none⟩) elt).trans E1.out; clear hb5))
        all_goals
          go_wp2
          rw [rounds_succ]
          go_wp2
          go_ret2
          rw [HE.out, show ofN (fixW (co xs) [(X, v)]) 15 = ofN (upd (co xs) P v) 15 by rw [HPP.out]; rfl]
          exact decP_some (DS.set D5.out hP15 HXX.out).1 (DS.set D5.out hP15 HXX.out).2.2
      · obtain ⟨P, hP⟩ : ∃ P, P = 14 - logN X := ⟨_, rfl⟩
        have hP15 : P < 15 := by omega
        have HPl := Lib.hid (fun W hW => place_any X v W hW hX)
        rw [← hP] at HPl
        have HPP := Lib.hid hP
        obtain ⟨Q, hQ⟩ : ∃ Q, Q = 14 - logN Y := ⟨_, rfl⟩
        have hQ15 : Q < 15 := by omega
        have HQl := Lib.hid (fun W hW => place_any Y u W hW hY)
        rw [← hQ] at HQl
        have HQQ := Lib.hid hQ
        clear hP hQ
        go_enter Tryd.func26, Tryd.ntmps26
        go_wp2_with (first
          | (go_at_call 34; refine HV.out.mono ?_; rintro e w' ⟨rfl, rfl⟩)
          | (go_at_call 42; refine HS.out.mono ?_; rintro e w1 ⟨rfl, b1⟩; have B1 := Lib.hid b1; clear b1)
          | (go_at_call 47; refine (HErr.out w1 (HT.out.next B1.out)).mono ?_; rintro e w2 ⟨⟨eb, ec, rfl, helt, hc0, hc1, hc2, hc3⟩, b2⟩; have B2 := Lib.hid (Below.next B1.out (Nat.le_refl _) b2); have HC0 := Lib.hid hc0; have HC1 := Lib.hid hc1; have E2 : Hid (EBs w2 eb Y u) := ⟨helt, hc2, hc3⟩; clear b2 hc0 hc1 hc2 hc3)
          | (go_at_call 48; refine (HC.out w2 (HX.out.next B2.out)).mono ?_; rintro e w3 ⟨ad, n, cap, rfl, hg, b3⟩; have G3 := Lib.hid (hg.base_le B2.out.size); obtain ⟨cb, rfl, hcb⟩ := hg.addr0 (grow_some hg hl0); have B3 := Lib.hid (Below.next B2.out (Nat.le_refl _) b3); have hc0 := (b3.cell (p := ⟨eb, 0, none⟩) helt).trans HC0.out; have hc1 := (b3.cell (p := ⟨eb, 1, none⟩) helt).trans HC1.out; have E3 := Lib.hid (E2.out.next b3); have hecb : eb < cb := Nat.lt_of_lt_of_le helt hcb; clear hg b3))
        refine wp_loop_rounds 3 ?_
        rw [rounds_succ]
        go_wp2
        have D4 : Hid (DS w (w3.alloc (.cells #[.int .i64 X, .int .i64 v] 53)) cb n cap (co xs)) := by
          have hG := G3.out
          rw [HEQ.out] at hG
          exact ⟨hG.alloc _, HT.out, B3.out.alloc B3.out.size _⟩
        have e0 : (w3.alloc (.cells #[.int .i64 X, .int .i64 v] 53)).cell? ⟨w3.heap.size, 0, none⟩ = some (.int .i64 X) := cell_of_row _ _ _ _ _ _ (heap_alloc_last _ _)
        have e1 : (w3.alloc (.cells #[.int .i64 X, .int .i64 v] 53)).cell? ⟨w3.heap.size, 1, none⟩ = some (.int .i64 v) := cell_of_row _ _ _ _ _ _ (heap_alloc_last _ _)
        have elt : w3.heap.size < (w3.alloc (.cells #[.int .i64 X, .int .i64 v] 53)).heap.size := by simp
        obtain ⟨cp, hcp⟩ : ∃ cp, cp = co xs P := ⟨_, rfl⟩
        have hcp16 : cp < 16 := by rw [hcp]; exact H16.out P
        obtain ⟨x, hx⟩ : ∃ x, x = co xs P ^^^ v := ⟨_, rfl⟩
        have hxx : bits .xor .i64 (cp : Int) (v : Int) = (x : Int) := by rw [hx, hcp]; exact xor_word _ _ (by have := H16.out P; omega) (by omega)
        have HXX := Lib.hid hx
        have HCP := Lib.hid hcp
        have hPn : P < n := by have := D4.out.len; omega
        have hQn : Q < n := by have := D4.out.len; omega
        have E1 := Lib.hid e1
        have E4 := Lib.hid (E3.out.next (below_alloc w3 (.cells #[.int .i64 X, .int .i64 v] 53)))
        clear hx hcp hc0 hc1 G3 E3 E2
        generalize w3.alloc (.cells #[.int .i64 X, .int .i64 v] 53) = W4 at *
        go_region_law (first | (go_simp; go_at_call 49; refine (HPl.out _ (D4.out.drewN 1).tabs).mono ?_; rintro e w5 ⟨rfl, hb5⟩; have D5 := Lib.hid ((D4.out.drewN 1).next hb5); have k5 := (D5.out.cell hP15).1; have f5 := (D5.out.cell hP15).2; rw [← HCP.out] at k5; have v5 := (hb5.cell (p := ⟨w3.heap.size, 1, none⟩) elt).trans E1.out; have E5 := Lib.hid (EBs.next (W := W4.drew) E4.out hb5); clear hb5))
        all_goals
          go_wp2
          have D6 := Lib.hid (DS.set D5.out hP15 HXX.out)
          have E6 := Lib.hid (EBs.set (P := P) (v := .int .i64 (x : Int)) E5.out hecb)
          clear D5 E5 k5 f5 v5 e0 e1 elt E1 HXX HCP hxx hcp16 D4 E4
          generalize w5.setCell ⟨cb, P, none⟩ (.int .i64 (x : Int)) = W6 at *
          obtain ⟨_, hc2, hc3⟩ := E6.out
          rw [rounds_succ]
          go_wp2
          have D7 : Hid (DS w (W6.alloc (.cells #[.int .i64 Y, .int .i64 u] 53)) cb n cap (upd (co xs) P v)) := D6.out.next (below_alloc _ _)
          have e0 : (W6.alloc (.cells #[.int .i64 Y, .int .i64 u] 53)).cell? ⟨W6.heap.size, 0, none⟩ = some (.int .i64 Y) := cell_of_row _ _ _ _ _ _ (heap_alloc_last _ _)
          have e1 : (W6.alloc (.cells #[.int .i64 Y, .int .i64 u] 53)).cell? ⟨W6.heap.size, 1, none⟩ = some (.int .i64 u) := cell_of_row _ _ _ _ _ _ (heap_alloc_last _ _)
          have elt : W6.heap.size < (W6.alloc (.cells #[.int .i64 Y, .int .i64 u] 53)).heap.size := by simp
          obtain ⟨cq, hcq⟩ : ∃ cq, cq = upd (co xs) P v Q := ⟨_, rfl⟩
          have hcq16 : cq < 16 := by rw [hcq]; exact upd_lt H16.out hv Q
          obtain ⟨y, hy⟩ : ∃ y, y = upd (co xs) P v Q ^^^ u := ⟨_, rfl⟩
          have hyy : bits .xor .i64 (cq : Int) (u : Int) = (y : Int) := by rw [hy, ← hcq]; exact xor_word _ _ (by omega) (by omega)
          have HYY := Lib.hid hy
          have HCQ := Lib.hid hcq
          have E1 := Lib.hid e1
          clear hy hcq hc2 hc3 E6 D6
          generalize W6.alloc (.cells #[.int .i64 Y, .int .i64 u] 53) = W7 at *
          go_region_law (first | (go_simp; go_at_call 49; refine (HQl.out _ (D7.out.drewN 1).tabs).mono ?_; rintro e w8 ⟨rfl, hb8⟩; have D8 := Lib.hid ((D7.out.drewN 1).next hb8); have k8 := (D8.out.cell hQ15).1; have f8 := (D8.out.cell hQ15).2; rw [← HCQ.out] at k8; have v8 := (hb8.cell (p := ⟨W6.heap.size, 1, none⟩) elt).trans E1.out; clear hb8))
          all_goals
            go_wp2
            rw [rounds_succ]
            go_wp2
            go_ret2
            rw [HE.out, show ofN (fixW (co xs) [(X, v), (Y, u)]) 15 = ofN (upd (upd (co xs) P v) Q u) 15 by rw [HPP.out, HQQ.out]; rfl]
            exact decP_some (DS.set D8.out hQ15 HYY.out).1 (DS.set D8.out hQ15 HYY.out).2.2
end Go.Proofs.YtkeeijkjemcbcaaDoor
