/-
  What the draw of links with powers, some of them the least ones, answers. No condition.
-/
import Derived.Test.YtlgcacoggikfcaaPwDraw6
namespace Go.Proofs.Ytlgcacoggikfcaa
open Go.RowKit

/-- Drawn rows whose blocks lie below B. -/
def DRowsB (W : World) (B : Nat) (a : Option Addr) (c : Nat) (R : List (List Int)) : Prop := ∃ vs blk, GrowV W 0 a R.length c vs ∧ RowsV W vs R blk ∧ ∀ i, i < R.length → blk i < B
section
variable {W W' : World} {B c : Nat} {a : Option Addr} {R : List (List Int)}
theorem DRows.bounded (h : DRows W a c R) : DRowsB W W.heap.size a c R := by
  obtain ⟨vs, blk, h1, h2⟩ := h
  refine ⟨vs, blk, h1, h2, fun i hi => ?_⟩
  obtain ⟨cap, _, h4⟩ := h2 i hi
  exact (World.ownsRow.lt h4 (blk i) rfl).2
theorem DRowsB.next (h : DRowsB W B a c R) (hb : Below W.heap.size W W') : DRowsB W' B a c R := by
  obtain ⟨vs, blk, h1, h2, h3⟩ := h
  exact ⟨vs, blk, h1.next hb, h2.next hb, h3⟩
theorem DRowsB.read {r p : Nat} (h : DRowsB W B a c R) (hg : W.grownBy W' (some r)) (hr : Rd W r p) : DRowsB W' B a c R := by
  obtain ⟨x, hx⟩ := hr.obj
  obtain ⟨vs, blk, h1, h2, h3⟩ := h
  exact ⟨vs, blk, h1.typed hg hx (by decide), h2.typed hg hx (by decide), h3⟩
theorem DRowsB.put {b : Nat} {x : Array Value} {fr : Nat × Nat} (h : DRowsB W B a c R) (hB : B ≤ b) (hg : W.grownBy W' (some b)) (hb : W.heap[b]? = some (.cells x 3 fr)) : DRows W' a c R := by
  obtain ⟨vs, blk, h1, h2, h3⟩ := h
  refine ⟨vs, blk, h1.typed hg hb (by decide), fun i hi => ?_⟩
  obtain ⟨cap, h4, h5⟩ := h2 i hi
  exact ⟨cap, h4, h5.other hg (by have := h3 i hi; omega)⟩
end
set_option maxHeartbeats 4000000 in
theorem drawLinksMeet_any (a : Option Addr) (c : Nat) (ds : List Int) (w : World) (hx : Ints .u8 w w.heap.size a ds) (hw : ∀ n ∈ ds, isByte n) (hc : ds.length ≤ c) (hcm : c ≤ maxLen) :
    Calls Try.prog 16 #[.slice a ds.length c] w (DrawLkPwP w) := by
  have hl : ds.length ≤ maxLen := Nat.le_trans hc hcm
  have X0 := lkVar_new w (.slice none 0 0) (.int .i64 0) (.int .i64 0)
  have B0 := alloc_belowX w (.cells #[.slice none 0 0, .int .i64 0, .int .i64 0] 25)
  have HO := Lib.hid (open_any a c ds _ (hx.next B0) hw hc hl hcm)
  have e1 : (w.alloc (.cells #[.slice none 0 0, .int .i64 0, .int .i64 0] 25)).heap.size = w.heap.size + 1 := by simp
  clear hx hw hc hcm hl
  go_enter Try.func16, Try.ntmps16
  go_wp2_with fail
  generalize w.alloc (.cells #[.slice none 0 0, .int .i64 0, .int .i64 0] 25) = W1 at *
  refine HO.out.mono ?_
  rintro e w2 ⟨rfl, r2, b2⟩
  have X2 := Lib.hid (X0.next b2)
  have B2 := Lib.hid (Below.next B0 (Nat.le_refl _) b2)
  rw [e1] at r2
  have R2 := Lib.hid r2
  clear X0 B0 HO r2 b2
  rw [e1]
  go_wp2_with fail
  refine (links_any (w.heap.size + 1) 0 12 w2 R2.out (by omega) (by omega) (by omega)).mono ?_
  rintro e w3 ⟨ga, gc, N, T, R, p', rfl, hR4, hd, hr3, hp3, g3⟩
  have X3 := Lib.hid (X2.out.grown g3 (by omega))
  have B3 := Lib.hid (B2.out.grown g3 B2.out.size (fun k hk => by injection hk; omega))
  have s3 : w.heap.size + 1 < w3.heap.size := hr3.lt
  have hal := alloc_belowX w3 (.cells #[.slice ga R.length gc, .int .i64 N, .int .i64 T] 25)
  have D4 := Lib.hid (hd.next hal)
  have R4 := Lib.hid (hr3.alloc (.cells #[.slice ga R.length gc, .int .i64 N, .int .i64 T] 25))
  have X4 := Lib.hid (X3.out.next hal)
  have Y4 := Lib.hid (lkVar_new w3 (.slice ga R.length gc) (.int .i64 N) (.int .i64 T))
  have B4 := Lib.hid (Below.next B3.out (Nat.le_refl _) hal)
  obtain ⟨b5, hb5⟩ : ∃ b5, b5 = w3.heap.size := ⟨_, rfl⟩
  clear hd hr3 g3 X2 X3 B2 B3 R2 e1 hal
  go_wp2_with fail
  generalize w3.alloc (.cells #[.slice ga R.length gc, .int .i64 N, .int .i64 T] 25) = w4 at *
  rw [← hb5] at Y4 s3 ⊢
  clear hb5
  refine (pick_any (w.heap.size + 1) p' 2 w4 R4.out (by omega) (by omega) (by omega)).mono ?_
  rintro e w5 ⟨d, ⟨hd0, hd1⟩, rfl, r5, g5⟩
  have X5 := Lib.hid (X4.out.grown g5 (by omega))
  have Y5 := Lib.hid (Y4.out.grown g5 (by omega))
  have D5 := Lib.hid (D4.out.read g5 R4.out)
  have B5 := Lib.hid (B4.out.grown g5 B4.out.size (fun k hk => by injection hk; omega))
  have R5 := Lib.hid r5
  clear r5 g5 X4 Y4 D4 B4 R4
  have vg := Y5.out.g
  have vn := Y5.out.n
  have vt := Y5.out.t
  have rg := X5.out.g
  have rn := X5.out.n
  have rt := X5.out.t
  have rf := X5.out.f
  have hd2 : d = 0 ∨ d = 1 := by omega
  rcases hd2 with rfl | rfl
  · have HLp := Lib.hid (specLeastPowers_any ga gc R N T w5 D5.out.rows)
    obtain ⟨S, hS⟩ : ∃ S, lpL R N T = S := ⟨_, rfl⟩
    have HS := Lib.hid hS
    clear hS hd0 hd1
    go_wp2_with fail
    refine HLp.out.mono ?_
    rintro e w6 ⟨v6, c6, rfl, hc6, o6, b6⟩
    rw [HS.out] at hc6 o6 ⊢
    have X6 := Lib.hid (X5.out.next b6)
    have Y6 := Lib.hid (Y5.out.next b6)
    have D6 := Lib.hid (D5.out.next b6)
    have DB6 := Lib.hid (D5.out.bounded.next b6)
    have B6 := Lib.hid (Below.next B5.out (Nat.le_refl _) b6)
    have R6 := Lib.hid (R5.out.below b6 R5.out.lt)
    have hw5 : w.heap.size + 1 < w5.heap.size := R5.out.lt
    have O6 := Lib.hid o6
    clear o6 b6 X5 Y5 D5 B5 R5 HLp vg vn vt rg rn rt rf
    by_cases h0 : S.length = 0
    · have hS0 : S = [] := List.eq_nil_of_length_eq_zero h0
      subst hS0
      have z0 : ¬ (0 : Int) < 0 := by omega
      have vg := Y6.out.g
      have vn := Y6.out.n
      have vt := Y6.out.t
      have rg := X6.out.g
      have rn := X6.out.n
      have rt := X6.out.t
      have rf := X6.out.f
      go_wp2
      have hg := Lib.grownBy_setB (Lib.grownBy_setB (Lib.grownBy_setCell w6 w.heap.size 0 (.slice ga R.length gc)) 1 (.int .i64 N)) 2 (.int .i64 T)
      refine bodyPost_ret (results_lk rfl _ _ w.heap.size _ _ _ rfl (((X6.out.setG _).setN _).setT _).heap) rfl ?_
      have hD := D6.out.typed hg X6.out.heap (by decide) (by decide)
      exact ⟨ga, gc, N, T, R, v6, c6, [], rfl, hD.rows, hD.room, Ints.nil, B6.out.grown hg B6.out.size (fun k hk => by injection hk; omega)⟩
    · obtain ⟨bp, cp, rfl, hbp, hcp, f, hrow, hf⟩ := O6.out (fun e => h0 (by rw [e]; rfl))
      have HRow := Lib.hid hrow
      have HF := Lib.hid hf
      have z0 : (0 : Int) < (S.length : Int) := by omega
      have hsl : S.length ≤ 5 := by
        by_cases h : LkOk R N T
        · rw [← HS.out, (lpL_ok h).1]; exact h.1.2
        · rw [← HS.out, lpL_no h]; exact Nat.zero_le _
      have HIn := Lib.hid (fun k (hk : k < S.length) => show 0 ≤ el S k ∧ el S k ≤ 10000 by
        by_cases h : LkOk R N T
        · have h2 := lpL_ok h
          rw [HS.out] at h2
          exact h2.2 k (by rw [← h2.1]; exact hk)
        · have h2 := HS.out
          rw [lpL_no h] at h2
          exact absurd (by rw [← h2]; rfl) h0)
      clear hrow hf O6
      go_wp2_with fail
      refine (pick_any (w.heap.size + 1) (p' + 1) 3 w6 R6.out (by omega) (by omega) (by omega)).mono ?_
      rintro e w7 ⟨d3, ⟨hd0, hd1⟩, rfl, r7, g7⟩
      obtain ⟨ro, hro⟩ := R6.out.obj
      obtain ⟨cu, hcu, _⟩ := HRow.out
      have X7 := Lib.hid (X6.out.grown g7 (by omega))
      have Y7 := Lib.hid (Y6.out.grown g7 (by omega))
      have D7 := Lib.hid (D6.out.read g7 R6.out)
      have DB7 := Lib.hid (DB6.out.read g7 R6.out)
      have B7 := Lib.hid (B6.out.grown g7 B6.out.size (fun k hk => by injection hk; omega))
      have R7 := Lib.hid r7
      have W7 := Lib.hid (HRow.out.of_block (g7.block bp HRow.out.lt (fun e => by injection e with e; exact ne_of_type hcu hro (by decide) e)))
      clear r7 g7 hro hcu X6 Y6 D6 B6 R6 HRow
      have vg := Y7.out.g
      have vn := Y7.out.n
      have vt := Y7.out.t
      have rg := X7.out.g
      have rn := X7.out.n
      have rt := X7.out.t
      have rf := X7.out.f
      by_cases hd3 : d3 = 0
      · subst hd3
        go_wp2_with fail
        refine (pick_any (w.heap.size + 1) (p' + 1 + 1) (S.length : Int) w7 R7.out (by omega) (by omega) (by omega)).mono ?_
        rintro e w8 ⟨k8, ⟨hk0, hk1⟩, rfl, r8, g8⟩
        obtain ⟨k, rfl⟩ := Int.eq_ofNat_of_zero_le hk0
        have hk : k < S.length := by omega
        obtain ⟨ro, hro⟩ := R7.out.obj
        obtain ⟨cu, hcu, _⟩ := W7.out
        have X8 := Lib.hid (X7.out.grown g8 (by omega))
        have Y8 := Lib.hid (Y7.out.grown g8 (by omega))
        have DB8 := Lib.hid (DB7.out.read g8 R7.out)
        have B8 := Lib.hid (B7.out.grown g8 B7.out.size (fun k hk => by injection hk; omega))
        have W8 := Lib.hid (W7.out.of_block (g8.block bp W7.out.lt (fun e => by injection e with e; exact ne_of_type hcu hro (by decide) e)))
        clear r8 g8 hro hcu X7 Y7 D7 B7 R7 W7 vg vn vt rg rn rt rf
        have c8 := (W8.out.cell (i := k) (by omega)).trans (by rw [HF.out k hk])
        have f8 := W8.out.frozen k
        have hin := HIn.out k hk
        generalize el S k = x at *
        have hwbp : w.heap.size < bp := by omega
        by_cases hx1 : 0 < x - 1
        · skip
          have hgs := Lib.grownBy_setCell w8 bp k (.int .i64 (x - 1))
          obtain ⟨cu, hcu, _⟩ := W8.out
          have X9 := Lib.hid (X8.out.grown hgs (ne_of_type X8.out.heap hcu (by decide)))
          have Y9 := Lib.hid (Y8.out.grown hgs (ne_of_type Y8.out.heap hcu (by decide)))
          have D9 := Lib.hid (DB8.out.put hbp hgs hcu)
          have B9 := Lib.hid (B8.out.grown hgs B8.out.size (fun k hk => by injection hk; omega))
          have W9 := Lib.hid (W8.out.set k (.int .i64 (x - 1)))
          clear hgs hcu
          have vg := Y9.out.g
          have vn := Y9.out.n
          have vt := Y9.out.t
          have rg := X9.out.g
          have rn := X9.out.n
          have rt := X9.out.t
          have rf := X9.out.f
          go_wp2
          have hg := Lib.grownBy_setB (Lib.grownBy_setB (Lib.grownBy_setCell (w8.setCell ⟨bp, k, none⟩ (.int .i64 (x - 1))) w.heap.size 0 (.slice ga R.length gc)) 1 (.int .i64 N)) 2 (.int .i64 T)
          refine bodyPost_ret (results_lk rfl _ _ w.heap.size _ _ _ rfl (((X9.out.setG _).setN _).setT _).heap) rfl ?_
          have hD := D9.out.typed hg X9.out.heap (by decide) (by decide)
          obtain ⟨cu, hcu, _⟩ := W9.out
          have hW := W9.out.of_block (hg.block bp W9.out.lt (fun e => by injection e with e; exact ne_of_type hcu X9.out.heap (by decide) e))
          obtain ⟨SZ, hSZ⟩ : ∃ SZ, SZ = S.set k ((x - 1)) := ⟨_, rfl⟩
          have hSl : S.length = SZ.length := by rw [hSZ, List.length_set]
          have hEl : ∀ i, i < S.length → (if i = k then Value.int .i64 ((x - 1)) else f i) = .int .i64 (el SZ i) := fun i hi => by
            rw [hSZ]
            by_cases e : i = k
            · subst e; simp [el, hi]
            · rw [if_neg e, HF.out i hi]
              unfold el
              rw [List.getD_eq_getElem?_getD, List.getD_eq_getElem?_getD, List.getElem?_set_ne (fun h => e h.symm)]
          clear hSZ
          rw [hSl]
          exact ⟨ga, gc, N, T, R, some ⟨bp, 0, none⟩, c6, SZ, rfl, hD.rows, hD.room, fun _ => ⟨bp, 0, rfl, hW.lt, fun i hi => by rw [Nat.zero_add, hW.cell (by omega), hEl i (by omega)]⟩, B9.out.grown hg B9.out.size (fun k hk => by injection hk; omega)⟩
        · skip
          have hgs := Lib.grownBy_setCell w8 bp k (.int .i64 0)
          obtain ⟨cu, hcu, _⟩ := W8.out
          have X9 := Lib.hid (X8.out.grown hgs (ne_of_type X8.out.heap hcu (by decide)))
          have Y9 := Lib.hid (Y8.out.grown hgs (ne_of_type Y8.out.heap hcu (by decide)))
          have D9 := Lib.hid (DB8.out.put hbp hgs hcu)
          have B9 := Lib.hid (B8.out.grown hgs B8.out.size (fun k hk => by injection hk; omega))
          have W9 := Lib.hid (W8.out.set k (.int .i64 0))
          clear hgs hcu
          have vg := Y9.out.g
          have vn := Y9.out.n
          have vt := Y9.out.t
          have rg := X9.out.g
          have rn := X9.out.n
          have rt := X9.out.t
          have rf := X9.out.f
          go_wp2
          have hg := Lib.grownBy_setB (Lib.grownBy_setB (Lib.grownBy_setCell (w8.setCell ⟨bp, k, none⟩ (.int .i64 0)) w.heap.size 0 (.slice ga R.length gc)) 1 (.int .i64 N)) 2 (.int .i64 T)
          refine bodyPost_ret (results_lk rfl _ _ w.heap.size _ _ _ rfl (((X9.out.setG _).setN _).setT _).heap) rfl ?_
          have hD := D9.out.typed hg X9.out.heap (by decide) (by decide)
          obtain ⟨cu, hcu, _⟩ := W9.out
          have hW := W9.out.of_block (hg.block bp W9.out.lt (fun e => by injection e with e; exact ne_of_type hcu X9.out.heap (by decide) e))
          obtain ⟨SZ, hSZ⟩ : ∃ SZ, SZ = S.set k (0) := ⟨_, rfl⟩
          have hSl : S.length = SZ.length := by rw [hSZ, List.length_set]
          have hEl : ∀ i, i < S.length → (if i = k then Value.int .i64 (0) else f i) = .int .i64 (el SZ i) := fun i hi => by
            rw [hSZ]
            by_cases e : i = k
            · subst e; simp [el, hi]
            · rw [if_neg e, HF.out i hi]
              unfold el
              rw [List.getD_eq_getElem?_getD, List.getD_eq_getElem?_getD, List.getElem?_set_ne (fun h => e h.symm)]
          clear hSZ
          rw [hSl]
          exact ⟨ga, gc, N, T, R, some ⟨bp, 0, none⟩, c6, SZ, rfl, hD.rows, hD.room, fun _ => ⟨bp, 0, rfl, hW.lt, fun i hi => by rw [Nat.zero_add, hW.cell (by omega), hEl i (by omega)]⟩, B9.out.grown hg B9.out.size (fun k hk => by injection hk; omega)⟩
      · have z3 : (d3 == 0) = false := by rw [beq_eq_false_iff_ne]; exact hd3
        go_wp2
        have hg := Lib.grownBy_setB (Lib.grownBy_setB (Lib.grownBy_setCell w7 w.heap.size 0 (.slice ga R.length gc)) 1 (.int .i64 N)) 2 (.int .i64 T)
        refine bodyPost_ret (results_lk rfl _ _ w.heap.size _ _ _ rfl (((X7.out.setG _).setN _).setT _).heap) rfl ?_
        have hD := D7.out.typed hg X7.out.heap (by decide) (by decide)
        obtain ⟨cu, hcu, _⟩ := W7.out
        have hW := W7.out.of_block (hg.block bp W7.out.lt (fun e => by injection e with e; exact ne_of_type hcu X7.out.heap (by decide) e))
        exact ⟨ga, gc, N, T, R, some ⟨bp, 0, none⟩, c6, S, rfl, hD.rows, hD.room, fun _ => ⟨bp, 0, rfl, hW.lt, fun i hi => by rw [Nat.zero_add, hW.cell (by omega), HF.out i hi]⟩, B7.out.grown hg B7.out.size (fun k hk => by injection hk; omega)⟩
  · have RD := Lib.hid (show Rd (w5.drewN 1) (w.heap.size + 1) (p' + 1) from R5.out)
    clear hd0 hd1
    go_wp2_with fail
    go_region_law (first
      | (go_simp; go_at_call 41; refine (powers_any (w.heap.size + 1) (p' + 1) ga R.length gc N T _ RD.out (by omega) (by omega)).mono ?_; rintro e w9 ⟨pv, pc, P, p2, rfl, hgr, hrd, hp2, hgb⟩; have X9 := Lib.hid ((X5.out.drewN 1).grown hgb (by omega)); have Y9 := Lib.hid ((Y5.out.drewN 1).grown hgb (by omega)); have D9 := Lib.hid ((D5.out.next (below_drewN (Below.refl _ _) 1)).read hgb RD.out); have B9 := Lib.hid ((below_drewN B5.out 1).grown hgb B5.out.size (fun k hk => by injection hk; omega)); have L9 := Lib.hid hgr; have k1 := X9.out.g; have k2 := X9.out.n; have k3 := X9.out.t; have k4 := X9.out.f; have k5 := Y9.out.g; have k6 := Y9.out.n; have k7 := Y9.out.t; clear hgr hrd hgb)
      | fail)
    all_goals
      go_wp2
      have hg := Lib.grownBy_setB (Lib.grownBy_setB (Lib.grownBy_setCell w9 w.heap.size 0 (.slice ga R.length gc)) 1 (.int .i64 N)) 2 (.int .i64 T)
      refine bodyPost_ret (results_lk rfl _ _ w.heap.size _ _ _ rfl (((X9.out.setG _).setN _).setT _).heap) rfl ?_
      have hD := D9.out.typed hg X9.out.heap (by decide) (by decide)
      exact ⟨ga, gc, N, T, R, pv, pc, P, rfl, hD.rows, hD.room, grow_typedI L9.out hg X9.out.heap (by decide), B9.out.grown hg B9.out.size (fun k hk => by injection hk; omega)⟩
end Go.Proofs.Ytlgcacoggikfcaa
