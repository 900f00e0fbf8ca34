/-
  What the search for the errors of four syndromes answers. Conditions: the program's two tables of the field lie in their variables; numbers below 16.
-/
import Derived.Test.YtkeeijkjemcbcaaDoorWrd2
import Derived.Deep.RegionHeld3
namespace Go.Proofs.YtkeeijkjemcbcaaDoor
open Go.RowKit

/-- The four numbers lie in the call's own block, the tables in their variables, and nothing that was there has changed. -/
def ES (w W : World) (s0 s1 s2 s3 : Nat) : Prop := Box4 W w.heap.size s0 s1 s2 s3 ∧ Tabs2 W ∧ Below w.heap.size w W
theorem ES.drewN {w W : World} {s0 s1 s2 s3 : Nat} (h : ES w W s0 s1 s2 s3) (n : Nat) : ES w (W.drewN n) s0 s1 s2 s3 := ⟨h.1, h.2.1.drewN n, below_drewN h.2.2 n⟩
theorem ES.next {w W W' : World} {s0 s1 s2 s3 : Nat} (h : ES w W s0 s1 s2 s3) (hb : Below W.heap.size W W') : ES w W' s0 s1 s2 s3 :=
  ⟨h.1.next hb, h.2.1.next hb, h.2.2.trans (hb.mono h.2.2.size)⟩
/-- The same, with what a drawn region reads laid open. -/
def ESC (w W : World) (s0 s1 s2 s3 : Nat) : Prop := Hid (ES w W s0 s1 s2 s3)
theorem ES.all {w W : World} {s0 s1 s2 s3 : Nat} (h : ES w W s0 s1 s2 s3) : ESC w W s0 s1 s2 s3 ∧ W.cell? ⟨w.heap.size, 0, none⟩ = some (.int .i64 s0) ∧ W.cell? ⟨w.heap.size, 1, none⟩ = some (.int .i64 s1) ∧
    W.cell? ⟨w.heap.size, 2, none⟩ = some (.int .i64 s2) ∧ W.cell? ⟨w.heap.size, 3, none⟩ = some (.int .i64 s3) := ⟨h, h.1.2⟩
theorem ES.all_next {w W W' : World} {s0 s1 s2 s3 : Nat} {X : Prop} (hb : Below W.heap.size W W') (h : ESC w W s0 s1 s2 s3 ∧ X) : ESC w W' s0 s1 s2 s3 ∧ W'.cell? ⟨w.heap.size, 0, none⟩ = some (.int .i64 s0) ∧ W'.cell? ⟨w.heap.size, 1, none⟩ = some (.int .i64 s1) ∧
    W'.cell? ⟨w.heap.size, 2, none⟩ = some (.int .i64 s2) ∧ W'.cell? ⟨w.heap.size, 3, none⟩ = some (.int .i64 s3) := ES.all ((Hid.out h.1).next hb)
theorem ESC.tabs {w W : World} {s0 s1 s2 s3 : Nat} {X : Prop} (h : ESC w W s0 s1 s2 s3 ∧ X) : Tabs2 W := (Hid.out h.1).2.1
theorem ESC.below {w W : World} {s0 s1 s2 s3 : Nat} {X : Prop} (h : ESC w W s0 s1 s2 s3 ∧ X) : Below w.heap.size w W := (Hid.out h.1).2.2
theorem errsPost_two' {w W : World} {X v Y u : Nat} {t : TypeId} (hb : Below w.heap.size w (W.alloc (.cells #[.int .i64 X, .int .i64 v, .int .i64 Y, .int .i64 u] t))) :
    ErrsPost (some [(X, v), (Y, u)]) w (.returned (.tuple #[.slice (some ⟨W.heap.size, 0, none⟩) 2 2, .bool true])) (W.alloc (.cells #[.int .i64 X, .int .i64 v, .int .i64 Y, .int .i64 u] t)) :=
  ⟨⟨_, _, rfl, by simp, cell_of_row _ _ 0 _ _ _ (heap_alloc_last _ _), cell_of_row _ _ 1 _ _ _ (heap_alloc_last _ _), cell_of_row _ _ 2 _ _ _ (heap_alloc_last _ _), cell_of_row _ _ 3 _ _ _ (heap_alloc_last _ _)⟩, hb⟩
theorem zero4_yes {a b c d : Nat} (h : zero4 a b c d = true) : a = 0 ∧ b = 0 ∧ c = 0 ∧ d = 0 := of_decide_eq_true h
theorem zero4_no {a b c d : Nat} (h : zero4 a b c d = false) : ¬ (a = 0 ∧ b = 0 ∧ c = 0 ∧ d = 0) := of_decide_eq_false h
theorem errs6_no {a b c d D : Nat} (h : zero4 a b c d = false) (hD : D = fmul b b ^^^ fmul a c) :
    errs6 a b c d = if D = 0 then one6 a b c d else two6 a b (locs6 (fmul (fmul b c ^^^ fmul a d) (finv D)) (fmul (fmul c c ^^^ fmul b d) (finv D)) 15 1) := by
  rw [errs6, if_neg (zero4_no h), hD]; rfl
theorem one6_cases (a b c d : Nat) : one6 a b c d = none ∨ ∃ X v, one6 a b c d = some [(X, v)] := by
  unfold one6
  split
  · exact .inl rfl
  · split
    · exact .inr ⟨_, _, rfl⟩
    · exact .inl rfl
theorem ErrsPost.back {o : Option (List (Nat × Nat))} {w W w' : World} {e : Ending} (h : ErrsAt w' e o) (hb : Below W.heap.size W w') (hw : Below w.heap.size w W) : ErrsPost o w e w' :=
  ⟨h, hw.trans (hb.mono hw.size)⟩
set_option maxHeartbeats 2000000 in
theorem errorsOf_any (s0 s1 s2 s3 : Nat) (w : World) (hT : Tabs2 w) (h0 : s0 < 16) (h1 : s1 < 16) (h2 : s2 < 16) (h3 : s3 < 16) :
    Calls Tryd.prog 47 #[arr4 s0 s1 s2 s3] w (ErrsPost (errs6 s0 s1 s2 s3) w) := by
  have hG : Tryd.prog.eqGuardType Tryd.prog.depth 42 = false := by kernel_rfl
  have HT := Lib.hid hT
  have E0 : Hid (ES w (w.alloc (.cells #[.int .i64 s0, .int .i64 s1, .int .i64 s2, .int .i64 s3] 42)) s0 s1 s2 s3) := ⟨box4_new w s0 s1 s2 s3 _, hT.alloc _, below_alloc w _⟩
  clear hT
  have hE := fun W => eq4_run s0 s1 s2 s3 W
  cases hz : zero4 s0 s1 s2 s3
  · rw [hz] at hE
    have HS := Lib.hid (fun W hW => singleError_any s0 s1 s2 s3 W hW h0 h1 h2)
    have hs1 := fmul_lt h1 h1
    have hs2 := fmul_lt h0 h2
    have hD := xor_lt hs1 hs2
    obtain ⟨p, hp⟩ : ∃ p, p = fmul s1 s1 := ⟨_, rfl⟩
    obtain ⟨q, hq⟩ : ∃ q, q = fmul s0 s2 := ⟨_, rfl⟩
    obtain ⟨D, hDD⟩ : ∃ D, D = fmul s1 s1 ^^^ fmul s0 s2 := ⟨_, rfl⟩
    have hx1 : bits .xor .i64 (p : Int) (q : Int) = (D : Int) := by rw [hDD, hp, hq]; exact xor_word _ _ (by omega) (by omega)
    have hE6 := errs6_no hz hDD
    rw [← hDD] at hD
    have HP := Lib.hid hp
    have HQ := Lib.hid hq
    clear hz hp hq hDD hs1 hs2
    unfold arr4 at HS ⊢
    by_cases hd : D = 0
    · rw [if_pos hd] at hE6
      have HE := Lib.hid hE6
      have z : ((D : Int) == 0) = true := by simp [hd]
      clear hd hE6
      go_enter Tryd.func47, Tryd.ntmps47
      go_wp2_with fail
      generalize w.alloc (.cells #[.int .i64 s0, .int .i64 s1, .int .i64 s2, .int .i64 s3] 42) = W at *
      obtain ⟨⟨_, c0, c1, c2, c3⟩, _, _⟩ := E0.out
      have H1 := Lib.hid (fun n => fieldProduct_any s1 s1 (W.drewN n) (E0.out.2.1.drewN n) h1 h1)
      have H2 := Lib.hid (fun n => fieldProduct_any s0 s2 (W.drewN n) (E0.out.2.1.drewN n) h0 h2)
      rw [← HP.out] at H1
      rw [← HQ.out] at H2
      clear hE hG
      go_quiet ((first
        | (go_at_call 53; with_reducible exact Calls.quiet_of (H1.out _))
        | (go_at_call 53; with_reducible exact Calls.quiet_of (H2.out _))))
      go_wp2_with fail
      rcases one6_cases s0 s1 s2 s3 with h1c | ⟨X, v, h1c⟩
      · rw [h1c] at HS HE
        refine (HS.out _ (E0.out.2.1.drewN nq)).mono ?_
        rintro e w' ⟨rfl, hb⟩
        have HB := Lib.hid hb
        clear hb h1c
        go_wp2
        go_ret2
        rw [HE.out]
        exact ErrsPost.back rfl HB.out (E0.out.drewN nq).2.2
      · rw [h1c] at HS HE
        refine (HS.out _ (E0.out.2.1.drewN nq)).mono ?_
        rintro e w' ⟨⟨b, c, rfl, hat⟩, hb⟩
        have HB := Lib.hid hb
        have HA := Lib.hid hat
        clear hb h1c hat
        go_wp2
        go_ret2
        rw [HE.out]
        exact ErrsPost.back ⟨b, c, rfl, HA.out⟩ HB.out (E0.out.drewN nq).2.2
    · rw [if_neg hd] at hE6
      have z : ((D : Int) == 0) = false := by simp; omega
      obtain ⟨p1, hp1⟩ : ∃ p1, p1 = fmul s1 s2 := ⟨_, rfl⟩
      obtain ⟨q1, hq1⟩ : ∃ q1, q1 = fmul s0 s3 := ⟨_, rfl⟩
      obtain ⟨u1, hu1⟩ : ∃ u1, u1 = p1 ^^^ q1 := ⟨_, rfl⟩
      obtain ⟨σ, hσ⟩ : ∃ σ, σ = fmul u1 (finv D) := ⟨_, rfl⟩
      obtain ⟨p2, hp2⟩ : ∃ p2, p2 = fmul s2 s2 := ⟨_, rfl⟩
      obtain ⟨q2, hq2⟩ : ∃ q2, q2 = fmul s1 s3 := ⟨_, rfl⟩
      obtain ⟨u2, hu2⟩ : ∃ u2, u2 = p2 ^^^ q2 := ⟨_, rfl⟩
      obtain ⟨π, hπ⟩ : ∃ π, π = fmul u2 (finv D) := ⟨_, rfl⟩
      rw [← hp1, ← hq1, ← hu1, ← hσ, ← hp2, ← hq2, ← hu2, ← hπ] at hE6
      have lp1 : p1 < 16 := by rw [hp1]; exact fmul_lt h1 h2
      have lq1 : q1 < 16 := by rw [hq1]; exact fmul_lt h0 h3
      have lp2 : p2 < 16 := by rw [hp2]; exact fmul_lt h2 h2
      have lq2 : q2 < 16 := by rw [hq2]; exact fmul_lt h1 h3
      have lu1 : u1 < 16 := by rw [hu1]; exact xor_lt lp1 lq1
      have lu2 : u2 < 16 := by rw [hu2]; exact xor_lt lp2 lq2
      have lσ : σ < 16 := by rw [hσ]; exact fmul_lt lu1 (finv_lt hD)
      have hx2 : bits .xor .i64 (p1 : Int) (q1 : Int) = (u1 : Int) := by rw [hu1]; exact xor_word _ _ (by omega) (by omega)
      have hx3 : bits .xor .i64 (p2 : Int) (q2 : Int) = (u2 : Int) := by rw [hu2]; exact xor_word _ _ (by omega) (by omega)
      have HP1 := Lib.hid hp1
      have HQ1 := Lib.hid hq1
      have HP2 := Lib.hid hp2
      have HQ2 := Lib.hid hq2
      have Hσ := Lib.hid hσ
      have Hπ := Lib.hid hπ
      have HE := Lib.hid hE6
      clear hd hE6 hp1 hq1 hp2 hq2 hσ hπ hu1 hu2 HS
      go_enter Tryd.func47, Tryd.ntmps47
      go_wp2_with fail
      generalize w.alloc (.cells #[.int .i64 s0, .int .i64 s1, .int .i64 s2, .int .i64 s3] 42) = W at *
      obtain ⟨⟨_, c0, c1, c2, c3⟩, _, _⟩ := E0.out
      have H1 := Lib.hid (fun n => fieldProduct_any s1 s1 (W.drewN n) (E0.out.2.1.drewN n) h1 h1)
      have H2 := Lib.hid (fun n => fieldProduct_any s0 s2 (W.drewN n) (E0.out.2.1.drewN n) h0 h2)
      rw [← HP.out] at H1
      rw [← HQ.out] at H2
      clear hE hG
      go_quiet ((first
        | (go_at_call 53; with_reducible exact Calls.quiet_of (H1.out _))
        | (go_at_call 53; with_reducible exact Calls.quiet_of (H2.out _))))
      have E1 := Lib.hid (E0.out.drewN nq)
      clear H1 H2 c0 c1 c2 c3 E0
      generalize W.drewN nq = W1 at *
      obtain ⟨⟨_, c0, c1, c2, c3⟩, _, _⟩ := E1.out
      have H1 := Lib.hid (fun n => fieldProduct_any s1 s2 (W1.drewN n) (E1.out.2.1.drewN n) h1 h2)
      have H2 := Lib.hid (fun n => fieldProduct_any s0 s3 (W1.drewN n) (E1.out.2.1.drewN n) h0 h3)
      have H3 := Lib.hid (fun n => fieldQuotient_any u1 D (W1.drewN n) (E1.out.2.1.drewN n) lu1 hD)
      rw [← HP1.out] at H1
      rw [← HQ1.out] at H2
      rw [← Hσ.out] at H3
      clear HP HQ HP1 HQ1
      go_wp2
      go_quiet ((first
        | (go_at_call 53; with_reducible exact Calls.quiet_of (H1.out _))
        | (go_at_call 53; with_reducible exact Calls.quiet_of (H2.out _))
        | (go_at_call 61; with_reducible exact Calls.quiet_of (H3.out _))))
      have E2 := Lib.hid (E1.out.drewN nq)
      clear H1 H2 H3 c0 c1 c2 c3 E1
      generalize W1.drewN nq = W2 at *
      obtain ⟨⟨_, c0, c1, c2, c3⟩, _, _⟩ := E2.out
      have H1 := Lib.hid (fun n => fieldProduct_any s2 s2 (W2.drewN n) (E2.out.2.1.drewN n) h2 h2)
      have H2 := Lib.hid (fun n => fieldProduct_any s1 s3 (W2.drewN n) (E2.out.2.1.drewN n) h1 h3)
      have H3 := Lib.hid (fun n => fieldQuotient_any u2 D (W2.drewN n) (E2.out.2.1.drewN n) lu2 hD)
      rw [← HP2.out] at H1
      rw [← HQ2.out] at H2
      rw [← Hπ.out] at H3
      clear HP2 HQ2 Hσ Hπ
      go_wp2
      go_quiet ((first
        | (go_at_call 53; with_reducible exact Calls.quiet_of (H1.out _))
        | (go_at_call 53; with_reducible exact Calls.quiet_of (H2.out _))
        | (go_at_call 61; with_reducible exact Calls.quiet_of (H3.out _))))
      have E3 := Lib.hid (E2.out.drewN nq)
      clear H1 H2 H3 c0 c1 c2 c3 E2
      generalize W2.drewN nq = W3 at *
      have HL := Lib.hid (locatorsOf_any σ π W3 E3.out.2.1 lσ)
      cases hl : locs6 σ π 15 1 with
      | none =>
        rw [hl] at HL HE
        clear hl
        go_wp2_with fail
        refine HL.out.mono ?_
        rintro e w' ⟨rfl, n3, rfl⟩
        unfold locV
        go_wp2
        go_ret2
        rw [HE.out]
        exact ⟨rfl, (E3.out.drewN n3).2.2⟩
      | some ab =>
        obtain ⟨x, y⟩ := ab
        obtain ⟨hx1', hx16', hxy, hlt, _⟩ := locs6_sound 15 1 hl
        have hx16 : x < 16 := by omega
        have hy16 : y < 16 := by rw [hxy]; exact xor_lt hx16 lσ
        rw [hl] at HL HE
        clear hl hxy
        go_wp2_with fail
        refine HL.out.mono ?_
        rintro e w' ⟨rfl, n3, rfl⟩
        unfold locV
        have E4 := Lib.hid (E3.out.drewN n3)
        clear HL E3
        generalize W3.drewN n3 = W4 at *
        have HV := Lib.hid (fun W (hW : Tabs2 W) => And.intro (valueAt_any s0 s1 s2 s3 x y W hW h0 h1 hx16 hy16) (valueAt_any s0 s1 s2 s3 y x W hW h0 h1 hy16 hx16))
        have HE2 : Hid (errs6 s0 s1 s2 s3 = some [(x, val6 s0 s1 x y), (y, val6 s0 s1 y x)]) := HE.out
        clear HE
        unfold arr4 at HV
        generalize val6 s0 s1 x y = v at *
        generalize val6 s0 s1 y x = u at *
        go_wp2_with fail
        obtain ⟨_, c0, c1, c2, c3⟩ := E4.out.1
        go_region_held3 (fun w' => ESC w w' s0 s1 s2 s3 ∧ w'.cell? ⟨w.heap.size, 0, none⟩ = some (.int .i64 s0) ∧ w'.cell? ⟨w.heap.size, 1, none⟩ = some (.int .i64 s1) ∧ w'.cell? ⟨w.heap.size, 2, none⟩ = some (.int .i64 s2) ∧
            w'.cell? ⟨w.heap.size, 3, none⟩ = some (.int .i64 s3))
          (first
            | exact ES.all (ES.drewN E4.out 1)
            | exact ES.all_next (by assumption) (by assumption)
            | exact ES.all_next (below_alloc _ _) (by assumption)
            | fail)
          (first
            | (go_at_call 63; (with_reducible refine (HV.out _ (ESC.tabs (by assumption))).1.mono ?_); rintro e w' ⟨rfl, hb⟩)
            | (go_at_call 63; (with_reducible refine (HV.out _ (ESC.tabs (by assumption))).2.mono ?_); rintro e w' ⟨rfl, hb⟩)
            | fail)
        all_goals
          go_wp2
          go_ret2
          rw [HE2.out]
          exact errsPost_two' (ESC.below (by assumption))
  · rw [hz] at hE
    have HE := Lib.hid (show errs6 s0 s1 s2 s3 = some [] by rw [errs6, if_pos (zero4_yes hz)])
    clear hz
    unfold arr4
    go_enter Tryd.func47, Tryd.ntmps47
    go_wp2
    go_ret2
    rw [HE.out]
    exact ⟨rfl, E0.out.2.2⟩
end Go.Proofs.YtkeeijkjemcbcaaDoor
