/-
  What drawing a table of conflicts answers. Conditions: at most nine stations; the reader's position is small.
-/
import Derived.Test.YtibgpgifdjefnaaDoorSkDraw1
import Derived.Deep.Cut
namespace Go.Proofs.YtibgpgifdjefnaaDoor
open Go.RowKit

/-- A drawn table; only the reader was written besides. -/
def ConfP (R0 p : Nat) (w : World) (e : Ending) (w' : World) : Prop :=
  ∃ a c R p', e = .returned (.slice a R.length c) ∧ (R.length ≤ 9 ∧ ∀ i, i < R.length → (rwB R i).length ≤ 9) ∧ TbF w' w.heap.size w'.heap.size a R ∧ Rd w' R0 p' ∧ p' ≤ p + 200 ∧ w.grownBy w' (some R0)
theorem tbN_rows {m n i : Nat} {F : Nat → Nat → Bool} (hi : i < (tbN m n F).length) (hn : n ≤ 9) : (rwB (tbN m n F) i).length ≤ 9 := by
  rw [tbN_len] at hi
  rw [tbN_row hi]; simpa using hn
theorem setN_rows {R : List (List Bool)} {m : Nat} {row : List Bool} {i : Nat} (h : i < R.length → (rwB R i).length ≤ 9) (h1 : row.length ≤ 9) (hi : i < (R.set m row).length) : (rwB (R.set m row) i).length ≤ 9 := by
  rw [List.length_set] at hi
  by_cases e : i = m
  · subst e; simpa [rwB, hi] using h1
  · have er : rwB (R.set m row) i = rwB R i := by
      unfold rwB
      rw [List.getD_eq_getElem?_getD, List.getElem?_set_ne (fun h => e h.symm), ← List.getD_eq_getElem?_getD]
    rw [er]; exact h hi
set_option maxRecDepth 10000 in
set_option maxHeartbeats 8000000 in
theorem l20Conflicts_any (R0 p : Nat) (most bad : Int) (w : World) (hr : Rd w R0 p) (hp : p ≤ 2000000) (hm : 0 ≤ most ∧ most ≤ 9) (hb : 1 ≤ bad ∧ bad ≤ 100) :
    Calls Tryd.prog 21 #[.pointer (some ⟨R0, 0, none⟩), .int .i64 most, .int .i64 bad] w (ConfP R0 p w) := by
  have hRw : R0 < w.heap.size := hr.lt
  have G0 : w.grownBy w (some R0) := ⟨rfl, rfl, rfl, Nat.le_refl _, fun _ _ _ => rfl⟩
  have q0 := wrapW (n := most + 1) (by omega)
  have q0' := wrapW' (n := most + 1) (by omega)
  go_enter Tryd.func21, Tryd.ntmps21
  go_wp2_with fail
  refine (pick_any R0 p (most + 1) w hr (by omega) (by omega) (by omega)).mono ?_
  rintro e w1 ⟨v1, ⟨hv1, hv1'⟩, rfl, r1, g1⟩
  obtain ⟨n, rfl⟩ := Int.eq_ofNat_of_zero_le hv1
  have hn8 : n ≤ 9 := by omega
  have R1 := Lib.hid r1
  have G1 := Lib.hid (grown_trans G0 g1)
  clear r1 g1 q0 q0' G0 hr hv1'
  go_wp2_with fail
  refine (pick_any R0 (p + 1) 4 w1 R1.out (by omega) (by omega) (by omega)).mono ?_
  rintro e w2 ⟨v2, ⟨hv2, hv2'⟩, rfl, r2, g2⟩
  have R2 := Lib.hid r2
  have G2 := Lib.hid (grown_trans G1.out g2)
  clear r2 g2 R1 G1
  have q1 := wrapW (n := 1 + v2) (by omega)
  have q1' := wrapW' (n := 1 + v2) (by omega)
  have RA := Lib.hid (R2.out.alloc (.cells #[] 29))
  have C0 : Hid (CE w (w2.alloc (.cells #[] 29)) R0 (some ⟨w2.heap.size, 0, none⟩) 0 0 n (fun _ => 0) (fun _ _ => false)) :=
    ⟨GVb.lit0 w2 _ G2.out.size, fun i hi => absurd hi (by omega), fun i j hi _ _ => absurd hi (by omega), grown_alloc G2.out _, hRw⟩
  go_wp2
  obtain ⟨D, hD⟩ : ∃ D, D = 1 + v2 := ⟨_, rfl⟩
  rw [← hD]
  clear q1 q1' hD
  generalize w2.alloc (.cells #[] 29) = W0 at *
  go_loopw [9, 10] (fun o i wr => ∃ (k cap : Nat) (a : Option Addr) (blk : Nat → Nat) (F : Nat → Nat → Bool), k ≤ n ∧ i = .int .i64 (k : Int) ∧ o = .slice a k cap ∧ CE w wr R0 a cap k n blk F ∧ Rd wr R0 (p + 1 + 1)) (fun _ i _ => n - (intOf i).toNat)
  case atStart => exact ⟨0, 0, _, _, _, Nat.zero_le _, rfl, rfl, C0.out, RA.out⟩
  case round =>
    obtain ⟨k, cap, a, blk, F, hk, rfl, rfl, hce, hrd⟩ := hrel
    have HC := Lib.hid hce
    have HR := Lib.hid hrd
    have hsz := hce.g.size
    clear hce hrd C0 RA R2 G2
    by_cases hlt : k < n
    · have hmk := makeB2 n (by omega)
      have B1 := Lib.hid (show Below wr.heap.size wr ((wr.alloc (.cells (madeCells #[.bool false] n) 4)).alloc (.cells #[.slice (some ⟨wr.heap.size, 0, none⟩) n n] 29)) from ((Below.refl _ _).alloc (Nat.le_refl _) _).alloc (by simp) _)
      go_wp2_with (at_builtin; refine wpList_appendVb (.tmp 27) (.tmp 30) w.heap.size a k cap _ ⟨wr.heap.size + 1, 0, none⟩ (some ⟨wr.heap.size, 0, none⟩) n n rfl rfl rfl (by simp [Act.eval]) ((HC.out.next B1.out).gr) (by simp) (by omega) (by simp; omega) ?_
                   intro a3 cap3 w9 h1 h2
                   have C3 := Lib.hid (HC.out.app h1 h2)
                   have R3 := Lib.hid ((HR.out.below B1.out HR.out.lt).below ((HC.out.next B1.out).gr.keepsBelow h2 (HC.out.next B1.out).g.size) hRw)
                   clear h1 h2)
      go_roundw
      case rel => exact ⟨k + 1, cap3, a3, _, _, by omega, by go_num, rfl, C3.out, R3.out⟩
      case measure => simp [intOf]; omega
    · obtain rfl : k = n := by omega
      go_wp2
      obtain ⟨wo, rfl⟩ : ∃ wo, wo = wr := ⟨wr, rfl⟩
      go_loopw [11] (fun i wr => ∃ (i0 p' : Nat) (F : Nat → Nat → Bool), i0 ≤ k ∧ i = .int .i64 (i0 : Int) ∧ CE w wr R0 a cap k k blk F ∧ Rd wr R0 p' ∧ p' ≤ p + 2 + 9 * i0) (fun i _ => k - (intOf i).toNat)
      case atStart => exact ⟨0, _, _, Nat.zero_le _, rfl, HC.out, HR.out, by omega⟩
      case round =>
        obtain ⟨i, p1, F1, hi, rfl, hce, hrd, hp1⟩ := hrel
        have HC := Lib.hid hce
        have HR := Lib.hid hrd
        clear hce hrd
        by_cases hil : i < k
        · go_wp2
          obtain ⟨wi, rfl⟩ : ∃ wi, wi = wr := ⟨wr, rfl⟩
          go_loopw [12] (fun j wr => ∃ (j0 p' : Nat) (F : Nat → Nat → Bool), j0 ≤ i ∧ j = .int .i64 (j0 : Int) ∧ CE w wr R0 a cap k k blk F ∧ Rd wr R0 p' ∧ p' ≤ p + 2 + 9 * i + j0) (fun j _ => i - (intOf j).toNat)
          case atStart => exact ⟨0, _, _, Nat.zero_le _, rfl, HC.out, HR.out, by omega⟩
          case round =>
            obtain ⟨j, p2, F2, hj, rfl, hce, hrd, hp2⟩ := hrel
            have HC := Lib.hid hce
            have HR := Lib.hid hrd
            clear hce hrd
            by_cases hjl : j < i
            · go_wp2_with fail
              refine (pick_any R0 p2 5 wr HR.out (by omega) (by omega) (by omega)).mono ?_
              rintro e w3 ⟨x, ⟨hx, hx'⟩, rfl, r3, g3⟩
              have R3 := Lib.hid r3
              have C3 := Lib.hid (HC.out.pick g3)
              clear r3 g3 HC HR
              obtain ⟨g, cur, rfl, hg1, hg2, hg3⟩ := C3.out.gr.at_ (by omega)
              have ci : w3.cell? ⟨g, i, none⟩ = some (.slice (some ⟨blk i, 0, none⟩) k k) := hg3 i _ hil (by simp [hil])
              have di := (C3.out.rows i hil).1.cell (i := j) (by omega)
              have fi := (C3.out.rows i hil).1.frozen j
              obtain ⟨v, hv⟩ : ∃ v, v = decide (x < D) := ⟨_, rfl⟩
              obtain ⟨F3, hC4⟩ := C3.out.set hil (by omega : j < k) v
              have C4 := Lib.hid hC4
              have R4 := Lib.hid (R3.out.below ((Below.refl w.heap.size w3).setCell (p := ⟨blk i, j, none⟩) (C3.out.rows i hil).2 (.bool v)) hRw)
              have hjk : (j : Int) < (k : Int) := by omega
              have hik : (i : Int) < (k : Int) := by omega
              clear hg2 hg3 hC4 hx hx'
              go_upto_region 16 with (fail)
              rw [← hv]
              clear ci di fi hv C3 R3
              generalize w3.setCell ⟨blk i, j, none⟩ (.bool v) = w4 at *
              obtain ⟨g', cur', e', hg1', hg2', hg3'⟩ := C4.out.gr.at_ (by omega)
              injection e' with e'
              injection e' with e'
              subst e'
              have cj : w4.cell? ⟨g, j, none⟩ = some (.slice (some ⟨blk j, 0, none⟩) k k) := hg3' j _ (by omega) (by simp [show j < k by omega])
              have dj := (C4.out.rows j (by omega)).1.cell (i := i) hil
              have fj := (C4.out.rows j (by omega)).1.frozen i
              obtain ⟨F4, hC5⟩ := C4.out.set (i := j) (j := i) (by omega) hil v
              have C5 := Lib.hid hC5
              have R5 := Lib.hid (R4.out.below ((Below.refl w.heap.size w4).setCell (p := ⟨blk j, i, none⟩) (C4.out.rows j (by omega)).2 (.bool v)) hRw)
              clear hg2' hg3' hC5 hg1'
              go_wp2
              go_roundw
              case rel => exact ⟨j + 1, _, F4, by omega, by go_num, C5.out, R5.out, by omega⟩
              case measure => simp [intOf]; omega
            · obtain rfl : i = j := by omega
              go_wp2
              go_roundw
              case rel => exact ⟨i + 1, p2, F2, by omega, by go_num, HC.out, HR.out, by omega⟩
              case measure => simp [intOf]; omega
        · obtain rfl : k = i := by omega
          by_cases h1 : 1 < k
          · have h1' : 1 < (k : Int) := by omega
            go_wp2_with fail
            refine (odd_any R0 p1 bad wr HR.out (by omega) (by omega) (by omega)).mono ?_
            rintro e w3 ⟨b, rfl, r3, g3⟩
            have R3 := Lib.hid r3
            have C3 := Lib.hid (HC.out.pick g3)
            clear r3 g3 HC HR
            cases b
            · go_wp2
              go_ret
              exact ⟨a, cap, tbN k k F1, _, by rw [tbN_len]; rfl, ⟨by rw [tbN_len]; omega, fun i hi => tbN_rows hi (by omega)⟩, C3.out.out (by omega), R3.out, by omega, C3.out.g⟩
            · go_wp2_with fail
              refine (pick_any R0 (p1 + 1) 3 w3 R3.out (by omega) (by omega) (by omega)).mono ?_
              rintro e w4 ⟨x, ⟨hx, hx'⟩, rfl, r4, g4⟩
              have R4 := Lib.hid r4
              have C4 := Lib.hid (C3.out.pick g4)
              clear r4 g4 R3 C3
              obtain ⟨g, cur, rfl, hg1, hg2, hg3⟩ := C4.out.gr.at_ (by omega)
              have hxx : x = 0 ∨ x = 1 ∨ x = 2 := by omega
              have cc : ∀ i, i < k → w4.cell? ⟨g, i, none⟩ = some (.slice (some ⟨blk i, 0, none⟩) k k) := fun i hi => hg3 i _ hi (by simp [hi])
              have HCC := Lib.hid cc
              clear hg3 cc hx hx'
              rcases hxx with rfl | rfl | rfl
              · have c0 := HCC.out 0 (by omega)
                have d0 := (C4.out.rows 0 (by omega)).1.cell (i := 0) (by omega)
                have f0 := (C4.out.rows 0 (by omega)).1.frozen 0
                obtain ⟨F5, hC5⟩ := C4.out.set (i := 0) (j := 0) (by omega) (by omega) true
                have C5 := Lib.hid hC5
                have R5 := Lib.hid (R4.out.below ((Below.refl w.heap.size w4).setCell (p := ⟨blk 0, 0, none⟩) (C4.out.rows 0 (by omega)).2 (.bool true)) hRw)
                clear hC5 hg2
                go_wp2
                go_ret
                exact ⟨_, cap, tbN k k F5, _, by rw [tbN_len]; rfl, ⟨by rw [tbN_len]; omega, fun i hi => tbN_rows hi (by omega)⟩, C5.out.out (by omega), R5.out, by omega, C5.out.g⟩
              · have c0 := HCC.out 0 (by omega)
                have d0 := (C4.out.rows 0 (by omega)).1.cell (i := 1) (by omega)
                have f0 := (C4.out.rows 0 (by omega)).1.frozen 1
                obtain ⟨F5, hC5⟩ := C4.out.set (i := 0) (j := 1) (by omega) (by omega) (!F1 0 1)
                have C5 := Lib.hid (CE.next hC5 (below_drewN (Below.refl _ _) 1))
                have R5 := Lib.hid (R4.out.below (below_drewN ((Below.refl w.heap.size w4).setCell (p := ⟨blk 0, 1, none⟩) (C4.out.rows 0 (by omega)).2 (.bool (!F1 0 1))) 1) hRw)
                clear hC5 hg2
                go_wp2
                go_region
                go_wp2
                go_ret
                exact ⟨_, cap, tbN k k F5, _, by rw [tbN_len]; rfl, ⟨by rw [tbN_len]; omega, fun i hi => tbN_rows hi (by omega)⟩, C5.out.out (by omega), R5.out, by omega, C5.out.g⟩
              · obtain ⟨m, hm1⟩ : ∃ m : Nat, (k : Int) - 1 = (m : Int) := ⟨k - 1, by omega⟩
                have hmk : m = k - 1 := by omega
                have q2 : IntKind.i64.wrap ((k : Int) - 1) = (m : Int) := by rw [wrapW (by omega), hm1]
                have q2' : wrap64 ((k : Int) - 1) = (m : Int) := by rw [wrapW' (by omega), hm1]
                have hmlt : (m : Int) < (k : Int) := by omega
                have c0 := HCC.out m (by omega)
                have f0 : w4.frozen? ⟨g, m, none⟩ = false := by simp [World.frozen?, hg2]
                obtain ⟨hS, hgS⟩ := C4.out.short (i := m) (by omega) (by omega : 0 < k) (by omega)
                have HS := Lib.hid hS
                have HG := Lib.hid hgS
                have R5 := Lib.hid (R4.out.below ((Below.refl w.heap.size w4).setCell (p := ⟨g, m, none⟩) hg1 (.slice (some ⟨blk m, 1, none⟩) (k - 1) (k - 1))) hRw)
                have hk1 : ¬ k = 1 := by omega
                clear hS hgS hg2 hm1 hmk
                go_wp2
                go_ret
                exact ⟨_, cap, (tbN k k F1).set m ((List.range (k - 1)).map fun j => F1 m (j + 1)), _, by rw [List.length_set, tbN_len]; rfl, ⟨by rw [List.length_set, tbN_len]; omega, fun i hi => setN_rows (fun h => tbN_rows h (by omega)) (by simp; omega) hi⟩, by have h := HS.out; simpa using h, R5.out, by omega, HG.out⟩
          · have h1' : ¬ 1 < (k : Int) := by omega
            go_wp2
            go_ret
            exact ⟨a, cap, tbN k k F1, _, by rw [tbN_len]; rfl, ⟨by rw [tbN_len]; omega, fun i hi => tbN_rows hi (by omega)⟩, HC.out.out (by omega), HR.out, by omega, HC.out.g⟩
end Go.Proofs.YtibgpgifdjefnaaDoor
