/-
  The law of LinksValid, walked: it returns true for every code, and writes into nothing that was there. No condition.
-/
import Derived.Test.YtgdfjbdpidileaaPwDraw8
import Derived.Test.YtgdfjbdpidileaaPwLaw1
namespace Go.Proofs.Ytgdfjbdpidileaa
open Go.RowKit

theorem rows_zero_bad {n : Nat} {R : List (List Int)} {N T : Int} : decide (LkOk (List.replicate n 0 :: R) N T) = false := decide_eq_false fun h => by
  have h1 := (h.2.2.2 0 (by simp)).2.2
  rw [show rwI (List.replicate n 0 :: R) 0 = List.replicate n 0 from rfl, itL_zero] at h1
  omega
theorem noise_zero_bad {R : List (List Int)} {T : Int} : decide (LkOk R 0 T) = false := decide_eq_false fun h => by
  have := h.2.1
  omega
theorem growV_one (W : World) (base z n : Nat) (hb : base ≤ W.heap.size) : GrowV (W.alloc (.cells #[.slice (some ⟨z, 0, none⟩) n n] 29)) base (some ⟨W.heap.size, 0, none⟩) 1 1 [.slice (some ⟨z, 0, none⟩) n n] :=
  ⟨rfl, .inr ⟨W.heap.size, 1, #[.slice (some ⟨z, 0, none⟩) n n], rfl, hb, heap_alloc_last _ _, Nat.le_refl _, by unfold maxLen; omega, rfl, rfl⟩⟩
/-- The rows behind the append: zeros, then the old ones from the second on. -/
theorem rows_after {w W' : World} {B base z g off cap' : Nat} {a' : Option Addr} {R : List (List Int)} {q : Nat → Option Addr × Nat} {n : Nat} (hn : R.length = n) (h1 : 1 ≤ n) (hn5 : n ≤ 5)
    (hq : ∀ i, i < R.length → w.cell? ⟨g, off + i, none⟩ = some (.slice (q i).1 (rwI R i).length (q i).2) ∧ (rwI R i).length ≤ (q i).2 ∧ (q i).2 ≤ maxLen ∧ Ints .i64 w B (q i).1 (rwI R i)) (hb : Below B w W')
    (hz : W'.rowIs z 3 n (fun i => .int .i64 (el (List.replicate n 0) i))) (hg : GrowV W' base a' (1 + (n - 1)) cap' ([.slice (some ⟨z, 0, none⟩) n n] ++ (List.range (n - 1)).map fun j => .slice (q (j + 1)).1 (rwI R (j + 1)).length (q (j + 1)).2)) (hB : B ≤ W'.heap.size) :
    RowsL W' W'.heap.size a' (List.replicate n 0 :: R.tail) := fun _ => by
  obtain ⟨g', cur, rfl, _, hh, hc⟩ := hg.at_ (by omega)
  refine ⟨g', 0, rfl, (Array.getElem?_eq_some_iff.1 hh).1, fun i hi => ?_⟩
  have hi' : i < n := by simp at hi; omega
  rw [Nat.zero_add]
  rcases Nat.eq_zero_or_pos i with rfl | hp
  · have hl : (rwI (List.replicate n 0 :: R.tail) 0).length = n := by simp [rwI]
    rw [hl]
    exact ⟨some ⟨z, 0, none⟩, n, hc 0 _ (by omega) rfl, Nat.le_refl _, by unfold maxLen; omega, ints_of_row (xs := List.replicate n 0) hz (by simp) hz.lt⟩
  · obtain ⟨j, rfl⟩ : ∃ j, i = j + 1 := ⟨i - 1, by omega⟩
    have e : rwI (List.replicate n 0 :: R.tail) (j + 1) = rwI R (j + 1) := by
      unfold rwI
      rw [List.getD_eq_getElem?_getD, List.getD_eq_getElem?_getD, List.getElem?_cons_succ, List.getElem?_tail]
    rw [e]
    obtain ⟨_, h3, h4, h5⟩ := hq (j + 1) (by omega)
    refine ⟨_, _, hc (j + 1) _ (by omega) ?_, h3, h4, (h5.below hb).more hB⟩
    simp [show j < n - 1 by omega]
set_option maxHeartbeats 4000000 in
theorem walkLinksValid (a : Option Addr) (c : Nat) (ds : List Int) (w : World) (hx : Ints .u8 w w.heap.size a ds) (hw : ∀ n ∈ ds, (Lit.int .u8 n).wf = true) (hc : ds.length ≤ c) (hcm : c ≤ maxLen) :
    Calls Try.prog 3 #[.slice a ds.length c] w fun e w' => e = .returned (.bool true) ∧ Below w.heap.size w w' := by
  have hb := isByte_of_wf hw
  clear hw
  by_cases hl : ds.length ≤ 1048576
  · go_enter Try.func3, Try.ntmps3
    go_wp2_with fail
    refine (drawLinksValid_any a c ds w hx hb hc hcm).mono ?_
    rintro e w1 ⟨ga, gc, N, T, R, rfl, hd, bl⟩
    have hal := alloc_belowX w1 (.cells #[.slice ga R.length gc, .int .i64 N, .int .i64 T] 25)
    have X1 := Lib.hid (lkVar_new w1 (.slice ga R.length gc) (.int .i64 N) (.int .i64 T))
    have Q1 := Lib.hid (hd.rows.below hal)
    have B1 := Lib.hid (Below.next bl (Nat.le_refl _) hal)
    have HRoom := Lib.hid hd.room
    obtain ⟨b3, hb3⟩ : ∃ b3, b3 = w1.heap.size := ⟨_, rfl⟩
    have sa : w1.heap.size < (w1.alloc (.cells #[.slice ga R.length gc, .int .i64 N, .int .i64 T] 25)).heap.size := by simp
    have sw : w.heap.size ≤ w1.heap.size := bl.size
    clear hx hb hc hcm hd bl hal
    obtain ⟨M, hM⟩ : ∃ M, decide (LkOk R N T) = M := ⟨_, rfl⟩
    have HM := Lib.hid hM
    have zm : (M != M) = false := by simp
    have HI := Lib.hid (linksValid_is ga gc R N T M _ (Q1.out.more (Nat.le_of_lt sa)) hM)
    clear hM
    go_wp2_with fail
    generalize w1.alloc (.cells #[.slice ga R.length gc, .int .i64 N, .int .i64 T] 25) = wa at *
    rw [← hb3] at X1 Q1 sa sw ⊢
    clear hb3
    refine HI.out.mono ?_
    rintro e w2 ⟨rfl, g2⟩
    have X2 := Lib.hid (X1.out.next g2)
    have Q2 := Lib.hid (Q1.out.below (g2.mono (Nat.le_of_lt sa)))
    have B2 := Lib.hid (Below.next B1.out (Nat.le_refl _) g2)
    have s2 : b3 < w2.heap.size := Nat.lt_of_lt_of_le sa g2.size
    clear g2 X1 Q1 B1 HI sa
    have HJ := Lib.hid (specLinksValid_is ga gc R N T M w2 (Q2.out.more (Nat.le_of_lt s2)) HM.out)
    have vg := X2.out.g
    have vn := X2.out.n
    have vt := X2.out.t
    go_wp2_with fail
    refine HJ.out.mono ?_
    rintro e w3 ⟨rfl, g3⟩
    have X3 := Lib.hid (X2.out.next g3)
    have Q3 := Lib.hid (Q2.out.below (g3.mono (Nat.le_of_lt s2)))
    have B3 := Lib.hid (Below.next B2.out (Nat.le_refl _) g3)
    have s3 : b3 < w3.heap.size := Nat.lt_of_lt_of_le s2 g3.size
    clear g3 X2 Q2 B2 HJ vg vn vt s2
    cases M
    · have HAL := Lib.hid (aliveP_from B3.out)
      go_wp2_with fail
      refine HAL.out.mono ?_
      rintro e w5 ⟨rfl, b5⟩
      go_wp2
      go_ret
      exact ⟨rfl, b5⟩
    · have hok := of_decide_eq_true HM.out
      have hn5 := hok.1
      obtain ⟨hrc, hcm⟩ := HRoom.out
      have ha4 := alloc_belowX w3 (.cells #[.slice ga R.length gc, .int .i64 0, .int .i64 T] 25)
      have ha5 := alloc_belowX (w3.alloc (.cells #[.slice ga R.length gc, .int .i64 0, .int .i64 T] 25)) (.cells #[.slice ga R.length gc, .int .i64 N, .int .i64 T] 25)
      have X5 := Lib.hid ((X3.out.next ha4).next ha5)
      have A5 := Lib.hid ((lkVar_new w3 (.slice ga R.length gc) (.int .i64 0) (.int .i64 T)).next ha5)
      have Y5 := lkVar_new (w3.alloc (.cells #[.slice ga R.length gc, .int .i64 0, .int .i64 T] 25)) (.slice ga R.length gc) (.int .i64 N) (.int .i64 T)
      have e4 : (w3.alloc (.cells #[.slice ga R.length gc, .int .i64 0, .int .i64 T] 25)).heap.size = w3.heap.size + 1 := by simp
      rw [e4] at Y5
      have Y5 := Lib.hid Y5
      have Q5 := Lib.hid ((Q3.out.below (ha4.mono (Nat.le_of_lt s3))).below (ha5.mono (by omega)))
      have B5 := Lib.hid (Below.next (Below.next B3.out (Nat.le_refl _) ha4) (Nat.le_refl _) ha5)
      have vg := X3.out.g
      have vn := X3.out.n
      have vt := X3.out.t
      clear hok ha4 ha5
      go_wp2_with fail
      generalize (w3.alloc (.cells #[.slice ga R.length gc, .int .i64 0, .int .i64 T] 25)).alloc (.cells #[.slice ga R.length gc, .int .i64 N, .int .i64 T] 25) = wB at *
      clear vg vn vt
      obtain ⟨gb, off, rfl, hgb, hrows⟩ := Q5.out (fun e => by rw [e] at hn5; simp at hn5)
      obtain ⟨q, hq⟩ := news_of hrows
      obtain ⟨n, hn⟩ : ∃ n, n = R.length := ⟨_, rfl⟩
      have hmk := makeX n (by omega)
      have vg := X5.out.g
      have yg := Y5.out.g
      have yf := Y5.out.f 0
      have lb3 := X5.out.lt
      have lb5 := A5.out.lt
      have lb6 := Y5.out.lt
      have hz1 := alloc_belowX wB (.cells (madeCells #[.int .i64 0] n) 3)
      have hz2 := alloc_belowX (wB.alloc (.cells (madeCells #[.int .i64 0] n) 3)) (.cells #[.slice (some ⟨wB.heap.size, 0, none⟩) n n] 29)
      have e1 : (wB.alloc (.cells (madeCells #[.int .i64 0] n) 3)).heap.size = wB.heap.size + 1 := by simp
      have hgv := growV_one (wB.alloc (.cells (madeCells #[.int .i64 0] n) 3)) (wB.heap.size + 1) wB.heap.size n (by simp)
      rw [e1] at hgv
      have HGv : Hid (GrowV ((wB.alloc (.cells (madeCells #[.int .i64 0] n) 3)).alloc (.cells #[.slice (some ⟨wB.heap.size, 0, none⟩) n n] 29)).drew (wB.heap.size + 1) (some ⟨wB.heap.size + 1, 0, none⟩) 1 1 [.slice (some ⟨wB.heap.size, 0, none⟩) n n]) := hgv
      have HZ : Hid (RowX ((wB.alloc (.cells (madeCells #[.int .i64 0] n) 3)).alloc (.cells #[.slice (some ⟨wB.heap.size, 0, none⟩) n n] 29)).drew wB.heap.size (List.replicate n 0)) := (rowX_zero wB n).next (below_drewN hz2 1)
      have HBW := Lib.hid (Below.next hz1 (Nat.le_refl _) hz2)
      have HBd : Hid (Below wB.heap.size wB ((wB.alloc (.cells (madeCells #[.int .i64 0] n) 3)).alloc (.cells #[.slice (some ⟨wB.heap.size, 0, none⟩) n n] 29)).drew) := Lib.hid (below_drewN HBW.out 1)
      have HQ := Lib.hid hq
      have HNews : Hid (∀ (j : Nat) (u : Value), ((List.range (n - 1)).map fun j => Value.slice (q (j + 1)).1 (rwI R (j + 1)).length (q (j + 1)).2)[j]? = some u → ((wB.alloc (.cells (madeCells #[.int .i64 0] n) 3)).alloc (.cells #[.slice (some ⟨wB.heap.size, 0, none⟩) n n] 29)).drew.cell? ((⟨gb, off + 1, none⟩ : Addr).add j) = some u) := fun j u hj => by
        have hjl : j < n - 1 := by
          have := (List.getElem?_eq_some_iff.1 hj).1
          simpa using this
        have h1 : Value.slice (q (j + 1)).1 (rwI R (j + 1)).length (q (j + 1)).2 = u := by simpa [hjl] using hj
        have h2 := (HQ.out (j + 1) (by omega)).1
        have h3 : (⟨gb, off + 1, none⟩ : Addr).add j = ⟨gb, off + (j + 1), none⟩ := by simp [Addr.add, Nat.add_assoc, Nat.add_comm 1 j]
        rw [h3, ← h1]
        exact cell_next h2 HBd.out
      have HLen := Lib.hid hn
      have hnn : 1 ≤ n := by omega
      have hng : n ≤ gc := by omega
      have hszd : wB.heap.size + 1 ≤ ((wB.alloc (.cells (madeCells #[.int .i64 0] n) 3)).alloc (.cells #[.slice (some ⟨wB.heap.size, 0, none⟩) n n] 29)).drew.heap.size := by
        show wB.heap.size + 1 ≤ ((wB.alloc (.cells (madeCells #[.int .i64 0] n) 3)).alloc (.cells #[.slice (some ⟨wB.heap.size, 0, none⟩) n n] 29)).heap.size
        simp
      have HSz := Lib.hid hszd
      have HOc : Hid (∀ u ∈ ((List.range (n - 1)).map fun j => Value.slice (q (j + 1)).1 (rwI R (j + 1)).length (q (j + 1)).2), u.oneCell' = true) := fun u hu => by
        obtain ⟨j, _, rfl⟩ := List.mem_map.1 hu
        rfl
      have hn5' : n ≤ 5 := by omega
      rw [← hn] at X5 A5 Y5 vg yg ⊢
      clear hz1 hz2 e1 hgv hq hszd hn hrows hrc hn5
      have hnI : (1 : Int) ≤ (n : Int) := by omega
      by_cases hg1 : gc = 1
      · subst hg1
        have hn1 : n = 1 := by omega
        have HN1 := Lib.hid hn1
        clear hn1
        go_region
        all_goals
          obtain ⟨wS, hwS⟩ : ∃ wS, wS = wB.setCell ⟨w3.heap.size + 1, 0, none⟩ (.slice (some ⟨wB.heap.size + 1, 0, none⟩) 1 1) := ⟨_, rfl⟩
          rw [← hwS]
          have hsS : wS.heap.size = wB.heap.size := by rw [hwS, World.size_setCell]
          have hgs := Lib.grownBy_setCell wB (w3.heap.size + 1) 0 (.slice (some ⟨wB.heap.size + 1, 0, none⟩) 1 1)
          have YS := Y5.out.setG (.slice (some ⟨wB.heap.size + 1, 0, none⟩) 1 1)
          have BS : Below b3 wB wS := by rw [hwS]; exact (Below.refl _ _).setCell (p := ⟨w3.heap.size + 1, 0, none⟩) (by show b3 ≤ w3.heap.size + 1; omega) _
          rw [← hwS] at hgs YS
          have AS := A5.out.grown hgs (by omega)
          clear hwS
          have k1 := alloc_belowX wS (.cells (madeCells #[.int .i64 0] n) 3)
          have k2 := alloc_belowX (wS.alloc (.cells (madeCells #[.int .i64 0] n) 3)) (.cells #[.slice (some ⟨wB.heap.size, 0, none⟩) n n] 29)
          have KB : Below wS.heap.size wS ((wS.alloc (.cells (madeCells #[.int .i64 0] n) 3)).alloc (.cells #[.slice (some ⟨wB.heap.size, 0, none⟩) n n] 29)).drew := below_drewN (Below.next k1 (Nat.le_refl _) k2) 1
          have A10 := Lib.hid (AS.next KB)
          have Y10 := Lib.hid (YS.next KB)
          have Z10 : RowX ((wS.alloc (.cells (madeCells #[.int .i64 0] n) 3)).alloc (.cells #[.slice (some ⟨wB.heap.size, 0, none⟩) n n] 29)).drew wS.heap.size (List.replicate n 0) := (rowX_zero wS n).next (below_drewN k2 1)
          have e1 : (wS.alloc (.cells (madeCells #[.int .i64 0] n) 3)).heap.size = wB.heap.size + 1 := by simp [hsS]
          have hg0 := growV_one (wS.alloc (.cells (madeCells #[.int .i64 0] n) 3)) (wB.heap.size + 1) wB.heap.size n (by rw [e1]; exact Nat.le_refl _)
          rw [e1] at hg0
          have hg2 : GrowV ((wS.alloc (.cells (madeCells #[.int .i64 0] n) 3)).alloc (.cells #[.slice (some ⟨wB.heap.size, 0, none⟩) n n] 29)).drew (wB.heap.size + 1) (some ⟨wB.heap.size + 1, 0, none⟩) 1 1 [.slice (some ⟨wB.heap.size, 0, none⟩) n n] := hg0
          have G11 : GrowV ((wS.alloc (.cells (madeCells #[.int .i64 0] n) 3)).alloc (.cells #[.slice (some ⟨wB.heap.size, 0, none⟩) n n] 29)).drew (wB.heap.size + 1) (some ⟨wB.heap.size + 1, 0, none⟩) (1 + (n - 1)) 1 ([.slice (some ⟨wB.heap.size, 0, none⟩) n n] ++ ((List.range (n - 1)).map fun j => Value.slice (q (j + 1)).1 (rwI R (j + 1)).length (q (j + 1)).2)) := by
            rw [show n - 1 = 0 by have := HN1.out; omega]
            exact hg2
          have BX : Below b3 wB ((wS.alloc (.cells (madeCells #[.int .i64 0] n) 3)).alloc (.cells #[.slice (some ⟨wB.heap.size, 0, none⟩) n n] 29)).drew := BS.trans (KB.mono (by rw [hsS]; exact Nat.le_trans (Nat.le_of_lt lb3) (Nat.le_refl _)))
          have hsx := BX.size
          have Z11 : (((wS.alloc (.cells (madeCells #[.int .i64 0] n) 3)).alloc (.cells #[.slice (some ⟨wB.heap.size, 0, none⟩) n n] 29)).drew).rowIs wB.heap.size 3 n (fun i => .int .i64 (el (List.replicate n 0) i)) := by
            have h := Z10
            unfold RowX at h
            rw [List.length_replicate, hsS] at h
            exact h
          have RA := rows_after HLen.out.symm hnn hn5' HQ.out BX Z11 G11 (by omega)
          have RB := (Q5.out.below BX).more (Nat.le_trans (Nat.le_of_lt lb3) hsx)
          have V1 := linksValid_is (some ⟨gb, off, none⟩) 1 R 0 T false _ RB noise_zero_bad
          rw [← HLen.out] at V1
          have hlen' : (List.replicate n 0 :: R.tail).length = 1 := by have := HN1.out; simp [← HLen.out]; omega
          have V2 := fun W (hb : Below (((wS.alloc (.cells (madeCells #[.int .i64 0] n) 3)).alloc (.cells #[.slice (some ⟨wB.heap.size, 0, none⟩) n n] 29)).drew).heap.size ((wS.alloc (.cells (madeCells #[.int .i64 0] n) 3)).alloc (.cells #[.slice (some ⟨wB.heap.size, 0, none⟩) n n] 29)).drew W) => linksValid_is (some ⟨wB.heap.size + 1, 0, none⟩) 1 (List.replicate n 0 :: R.tail) N T false W (RA.next hb) rows_zero_bad
          rw [hlen'] at V2
          have HV1 := Lib.hid V1
          have HV2 := Lib.hid V2
          have BZ := Lib.hid (B5.out.trans (BX.mono sw))
          clear V1 V2 hlen' RA RB Z11 Z10 G11 hg2 hg0 e1 AS YS BS KB k1 k2 hgs BX hsx vg yg yf hsS
          have vg := A10.out.g
          have vn := A10.out.n
          have vt := A10.out.t
          generalize ((wS.alloc (.cells (madeCells #[.int .i64 0] n) 3)).alloc (.cells #[.slice (some ⟨wB.heap.size, 0, none⟩) n n] 29)).drew = w10 at *
          go_wp2_with fail
          refine HV1.out.mono ?_
          rintro e w11 ⟨rfl, b11⟩
          have Y11 := Lib.hid (Y10.out.next b11)
          have V3 := Lib.hid (HV2.out w11 b11)
          have B11 := Lib.hid (Below.next BZ.out (Nat.le_refl _) b11)
          clear b11 HV1 HV2 vg vn vt
          have vg := Y11.out.g
          have vn := Y11.out.n
          have vt := Y11.out.t
          go_wp2_with fail
          refine V3.out.mono ?_
          rintro e w12 ⟨rfl, b12⟩
          go_wp2
          go_ret
          exact ⟨rfl, Below.next B11.out (Nat.le_refl _) b12⟩
      · skip
        go_region_law (first
          | (refine step_appendR (.tmp 28) (.tmp 31) (wB.heap.size + 1) (wB.heap.size + 1) (.slice (some ⟨wB.heap.size, 0, none⟩) n n) ⟨gb, off + 1, none⟩ (n - 1) (gc - 1) ((List.range (n - 1)).map fun j => Value.slice (q (j + 1)).1 (rwI R (j + 1)).length (q (j + 1)).2) rfl rfl rfl rfl HGv.out (by simp) HNews.out HOc.out (by omega) HSz.out ?_; intro a9 cap9 w9 hgv9 hb9; have HG9 := Lib.hid hgv9; have HB9 := Lib.hid hb9; have c9 := (hb9.cell (p := ⟨w3.heap.size + 1, 0, none⟩) (by show w3.heap.size + 1 < wB.heap.size + 1; omega)).trans (cell_next yg HBd.out); have f9 := (LkVar.f (World.rowIs.of_block (World.rowIs.of_block Y5.out (HBd.out.block _ lb6)) (hb9.block _ (by omega)) : LkVar w9 _ _ _ _) 0); clear hgv9 hb9)
          | fail)
        all_goals
          have Y9 : LkVar w9 (w3.heap.size + 1) (.slice (some ⟨gb, off, none⟩) n gc) (.int .i64 N) (.int .i64 T) := World.rowIs.of_block (World.rowIs.of_block Y5.out (HBd.out.block _ lb6)) (HB9.out.block _ (by omega))
          have A9 : LkVar w9 w3.heap.size (.slice (some ⟨gb, off, none⟩) n gc) (.int .i64 0) (.int .i64 T) := World.rowIs.of_block (World.rowIs.of_block A5.out (HBd.out.block _ lb5)) (HB9.out.block _ (by omega))
          have Z9 : RowX w9 wB.heap.size (List.replicate n 0) := World.rowIs.of_block HZ.out (HB9.out.block _ (by omega))
          have hgs := Lib.grownBy_setCell w9 (w3.heap.size + 1) 0 (.slice a9 n cap9)
          have A10 := Lib.hid (A9.grown hgs (by omega))
          have Y10 := Lib.hid (Y9.setG (.slice a9 n cap9))
          have G10 := HG9.out.typed hgs Y9.heap (by decide)
          have Z10 := Z9.grown hgs (by omega)
          have BX : Below b3 wB (w9.setCell ⟨w3.heap.size + 1, 0, none⟩ (.slice a9 n cap9)) := (((HBd.out.mono (Nat.le_of_lt lb3)).trans (HB9.out.mono (by omega))).grown hgs (Nat.le_trans (Nat.le_of_lt lb3) (Nat.le_trans HBd.out.size HB9.out.size)) (fun k hk => by injection hk; omega))
          have hsx := BX.size
          have Z11 : (w9.setCell ⟨w3.heap.size + 1, 0, none⟩ (.slice a9 n cap9)).rowIs wB.heap.size 3 n (fun i => .int .i64 (el (List.replicate n 0) i)) := by
            have h := Z10
            unfold RowX at h
            rw [List.length_replicate] at h
            exact h
          have RA := rows_after HLen.out.symm hnn hn5' HQ.out BX Z11 G10 (by omega)
          have RB := (Q5.out.below BX).more (Nat.le_trans (Nat.le_of_lt lb3) hsx)
          have V1 := linksValid_is (some ⟨gb, off, none⟩) gc R 0 T false _ RB noise_zero_bad
          rw [← HLen.out] at V1
          have hlen' : (List.replicate n 0 :: R.tail).length = n := by simp [← HLen.out]; omega
          have V2 := fun W (hb : Below (w9.setCell ⟨w3.heap.size + 1, 0, none⟩ (.slice a9 n cap9)).heap.size (w9.setCell ⟨w3.heap.size + 1, 0, none⟩ (.slice a9 n cap9)) W) => linksValid_is a9 cap9 (List.replicate n 0 :: R.tail) N T false W (RA.next hb) rows_zero_bad
          rw [hlen'] at V2
          have HV1 := Lib.hid V1
          have HV2 := Lib.hid V2
          have BZ := Lib.hid (((Below.next B5.out (Nat.le_refl _) HBd.out).trans (HB9.out.mono (by have := B5.out.size; omega))).grown hgs (Nat.le_trans B5.out.size (Nat.le_trans HBd.out.size HB9.out.size)) (fun k hk => by injection hk; omega))
          clear V1 V2 hlen' RA RB Z11 Z10 G10 Z9 A9 Y9 hgs BX hsx c9 f9 vg yg yf
          have vg := A10.out.g
          have vn := A10.out.n
          have vt := A10.out.t
          generalize w9.setCell ⟨w3.heap.size + 1, 0, none⟩ (.slice a9 n cap9) = w10 at *
          go_wp2_with fail
          refine HV1.out.mono ?_
          rintro e w11 ⟨rfl, b11⟩
          have Y11 := Lib.hid (Y10.out.next b11)
          have V3 := Lib.hid (HV2.out w11 b11)
          have B11 := Lib.hid (Below.next BZ.out (Nat.le_refl _) b11)
          clear b11 HV1 HV2 vg vn vt
          have vg := Y11.out.g
          have vn := Y11.out.n
          have vt := Y11.out.t
          go_wp2_with fail
          refine V3.out.mono ?_
          rintro e w12 ⟨rfl, b12⟩
          go_wp2
          go_ret
          exact ⟨rfl, Below.next B11.out (Nat.le_refl _) b12⟩
  · go_enter Try.func3, Try.ntmps3
    go_wp2
    go_ret
    exact ⟨rfl, Below.refl _ _⟩
end Go.Proofs.Ytgdfjbdpidileaa
