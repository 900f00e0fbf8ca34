/-
  What drawing a table of costs answers. Condition: the reader's position is small.
-/
import Derived.Test.YtnmhiagnmfpipaaRteTW
import Derived.Test.YtnmhiagnmfpipaaRowF
import Derived.Deep.Cut
import Derived.BigRegion
namespace Go.Proofs.Ytnmhiagnmfpipaa
open Go.RowKit

/-- A drawn table; only the reader was written besides. -/
def CostP (R0 p : Nat) (w : World) (e : Ending) (w' : World) : Prop :=
  ∃ a c R p', e = .returned (.slice a R.length c) ∧ (1 ≤ R.length ∧ R.length ≤ 7) ∧ (R.length ≤ c ∧ c ≤ maxLen) ∧ TiF w' w.heap.size w'.heap.size a R ∧ Rd w' R0 p' ∧ p' ≤ p + 200 ∧ w.grownBy w' (some R0)
/-- A row is being drawn: all blocks of the call below B are as they were. -/
structure IE (w wr wi : World) (R0 p B : Nat) (a : Option Addr) (j c : Nat) (xs : List Int) : Prop where
  kp : ∀ g, w.heap.size ≤ g → g < B → wi.heap[g]? = wr.heap[g]?
  sz : B ≤ wi.heap.size
  row : Grow .i64 3 wi B a j c xs
  rd : Rd wi R0 p
  g : w.grownBy wi (some R0)
section
variable {w wr wi w' : World} {R0 p p' B j c : Nat} {a : Option Addr} {xs : List Int}
theorem IE.pick (h : IE w wr wi R0 p B a j c xs) (hr : Rd w' R0 p') (hg : wi.grownBy w' (some R0)) (h0 : R0 < w.heap.size) (hB : w.heap.size ≤ B) : IE w wr w' R0 p' B a j c xs := by
  have hs := h.sz
  exact ⟨fun g h1 h2 => (hg.block g (by omega) (fun e => by injection e; omega)).trans (h.kp g h1 h2), Nat.le_trans h.sz hg.size,
    h.row.keep (fun b h1 h2 => hg.block b h2 (fun e => by injection e; omega)), hr, grown_trans h.g hg⟩
set_option maxRecDepth 10000 in
theorem IE.app {a' : Option Addr} {c' : Nat} {ys : List Int} {j' : Nat} (h : IE w wr wi R0 p B a j c xs) (hg : Grow .i64 3 w' B a' j' c' ys) (hb : Below B wi w') (h0 : R0 < w.heap.size) (hB : w.heap.size ≤ B) : IE w wr w' R0 p B a' j' c' ys :=
  ⟨fun g h1 h2 => (hb.block g h2).trans (h.kp g h1 h2), Nat.le_trans h.sz hb.size, hg, h.rd.below hb (by omega), grown_below h.g hb hB⟩
end
set_option maxRecDepth 10000 in
/-- What an append to a row leaves of the table. -/
theorem app1_row {W W' : World} {A cap g m n c' : Nat} {R : List (List Int)} {blk : Nat → Nat} {vs : List Value} {xs : List Int} {v : Int} {u : Value} {a' : Option Addr} (h : TW W A (some ⟨g, 0, none⟩) cap R blk vs) (hm : m < R.length) (hc : W.cell? ⟨g, m, none⟩ = some u) (ha : App1 A (some ⟨blk m, 0, none⟩) n xs v W a' c' W') :
    (∀ j, j < W.heap.size → j ≠ blk m → W'.heap[j]? = W.heap[j]?) ∧ W'.cell? ⟨g, m, none⟩ = some u ∧ W'.frozen? ⟨g, m, none⟩ = false ∧ Grow .i64 3 W' A a' (n + 1) c' (xs ++ [v]) ∧ Below A W W' := by
  obtain ⟨h1, h2, h3, _⟩ := ha
  have hk : ∀ j, j < W.heap.size → j ≠ blk m → W'.heap[j]? = W.heap[j]? := fun j hj hne => h3 j hj fun e => by
    injection e with e
    injection e with e
    exact hne e.symm
  obtain ⟨cur, _, hh, hne, _, _⟩ := h.outer hm
  have hg := hk g (Array.getElem?_eq_some_iff.1 hh).1 hne
  exact ⟨hk, (World.cell?_of_block (a := ⟨g, m, none⟩) hg).trans hc, by simp [World.frozen?, hg, hh], h1, h2⟩
theorem TW.cellV {W : World} {A cap g i : Nat} {R : List (List Int)} {blk : Nat → Nat} {vs : List Value} {u : Value} (h : TW W A (some ⟨g, 0, none⟩) cap R blk vs) (hi : i < R.length) (hv : vs[i]? = some u) : W.cell? ⟨g, i, none⟩ = some u := by
  obtain ⟨cur, _, hh, _, _, hc⟩ := h.outer hi
  rw [cell_of_row _ _ _ _ _ _ hh]
  exact hc i u hi hv
set_option maxRecDepth 10000 in
theorem TW.growV {W : World} {A cap i n c : Nat} {a : Option Addr} {R : List (List Int)} {blk : Nat → Nat} {vs : List Value} (h : TW W A a cap R blk vs) (hi : i < R.length) (hv : vs[i]? = some (.slice (some ⟨blk i, 0, none⟩) n c)) : Grow .i64 3 W A (some ⟨blk i, 0, none⟩) (rwI R i).length c (rwI R i) := by
  obtain ⟨c', h1, h2⟩ := h.rows i hi
  rw [hv] at h1
  injection h1 with h1
  injection h1 with _ _ h1
  rw [h1]; exact h2
/-- A list of two numbers, -1 and 101, in block cb. -/
structure TwoN (W : World) (A cb : Nat) : Prop where
  lo : A ≤ cb
  row : W.heap[cb]? = some (.cells #[.int .i64 (-1), .int .i64 101] 3 (0, 0))
theorem twoN_new (W : World) (A : Nat) (h : A ≤ W.heap.size) : TwoN (W.alloc (.cells #[.int .i64 (-1), .int .i64 101] 3)) A W.heap.size := ⟨h, heap_alloc_last _ _⟩
theorem TwoN.read {W W' : World} {A cb R0 : Nat} (h : TwoN W A cb) (hg : W.grownBy W' (some R0)) (h0 : R0 < A) : TwoN W' A cb :=
  ⟨h.lo, (hg.block cb (Array.getElem?_eq_some_iff.1 h.row).1 (fun e => by injection e with e; have := h.lo; omega)).trans h.row⟩
theorem TwoN.cell {W : World} {A cb i : Nat} (h : TwoN W A cb) (hi : i < 2) : ∃ v : Int, W.cell? ⟨cb, i, none⟩ = some (.int .i64 v) := by
  match i, hi with
  | 0, _ => exact ⟨-1, cell_of_row _ _ 0 _ _ _ h.row⟩
  | 1, _ => exact ⟨101, cell_of_row _ _ 1 _ _ _ h.row⟩
set_option maxRecDepth 10000 in
set_option maxHeartbeats 8000000 in
theorem l20Costs_any (R0 p : Nat) (bad : Int) (w : World) (hr : Rd w R0 p) (hp : p ≤ 2000000) (hb : 1 ≤ bad ∧ bad ≤ 100) :
    Calls Try.prog 42 #[.pointer (some ⟨R0, 0, none⟩), .int .i64 bad] w (CostP R0 p w) := by
  have hRw : R0 < w.heap.size := hr.lt
  have G0 : w.grownBy w (some R0) := ⟨rfl, rfl, rfl, Nat.le_refl _, fun _ _ _ => rfl⟩
  go_enter Try.func42, Try.ntmps42
  go_wp2_with fail
  refine (pick_any R0 p 7 w hr (by omega) (by omega) (by omega)).mono ?_
  rintro e w1 ⟨v1, ⟨hv1, hv1'⟩, rfl, r1, g1⟩
  obtain ⟨n0, rfl⟩ := Int.eq_ofNat_of_zero_le hv1
  have R1 := Lib.hid r1
  have G1 := Lib.hid (grown_trans G0 g1)
  have q0 := wrapW (n := 1 + (n0 : Int)) (by omega)
  have q0' := wrapW' (n := 1 + (n0 : Int)) (by omega)
  obtain ⟨n, hn⟩ : ∃ n : Nat, n = 1 + n0 := ⟨_, rfl⟩
  have hnI : (1 : Int) + (n0 : Int) = (n : Int) := by omega
  rw [hnI] at q0 q0'
  have hn7 : 1 ≤ n ∧ n ≤ 7 := by omega
  clear r1 g1 G0 hr hv1' hv1 hn
  go_wp2_with fail
  clear q0 q0'
  refine (pick_any R0 (p + 1) 4 w1 R1.out (by omega) (by omega) (by omega)).mono ?_
  rintro e w2 ⟨v2, ⟨hv2, hv2'⟩, rfl, r2, g2⟩
  have R2 := Lib.hid r2
  have G2 := Lib.hid (grown_trans G1.out g2)
  clear r2 g2 R1 G1
  have q1 := wrapW (n := 1 + v2) (by omega)
  have q1' := wrapW' (n := 1 + v2) (by omega)
  have RA := Lib.hid (R2.out.alloc (.cells #[] 27))
  have T0 := Lib.hid (TW.lit0 w2 w.heap.size G2.out.size)
  have GA := Lib.hid (grown_alloc G2.out (.cells #[] 27))
  go_wp2
  obtain ⟨D, hD⟩ : ∃ D, D = 1 + v2 := ⟨_, rfl⟩
  rw [← hD]
  clear q1 q1' hD hv2 hv2' G2
  generalize hs2 : w2.heap.size = s2 at *
  generalize w2.alloc (.cells #[] 27) = W0 at *
  clear hs2 R2
  go_loopw [7, 8] (fun o i wr => ∃ (k cap p' : Nat) (a : Option Addr) (R : List (List Int)) (blk : Nat → Nat) (vs : List Value), k ≤ n ∧ i = .int .i64 (k : Int) ∧ o = .slice a k cap ∧ R.length = k ∧ (∀ i, i < k → (rwI R i).length = n) ∧ TW wr w.heap.size a cap R blk vs ∧ Rd wr R0 p' ∧ p' ≤ p + 2 + 14 * k ∧ w.grownBy wr (some R0)) (fun _ i _ => n - (intOf i).toNat)
  case atStart => exact ⟨0, 0, _, _, [], _, _, Nat.zero_le _, rfl, rfl, rfl, fun _ hi => absurd hi (Nat.not_lt_zero _), T0.out, RA.out, by omega, GA.out⟩
  case round =>
    obtain ⟨k, cap, p', a, R, blk, vs, hk, rfl, rfl, hRl, hRr, htw, hrd, hp', hgr⟩ := hrel
    have HT := Lib.hid htw
    have HR := Lib.hid hrd
    have HG := Lib.hid hgr
    have HRr := Lib.hid hRr
    have HRl := Lib.hid hRl
    clear htw hrd hgr hRr hRl T0 RA GA
    by_cases hlt : k < n
    · have HB := Lib.hid HG.out.size
      have HI0 : Hid (IE w wr (wr.alloc (.cells #[] 3)) R0 p' wr.heap.size (some ⟨wr.heap.size, 0, none⟩) 0 0 []) :=
        ⟨fun g _ h2 => Below.heap_alloc _ _ _ h2, by simp, Grow.lit0 _ _ _ _ (Nat.le_refl _), HR.out.alloc _, grown_alloc HG.out _⟩
      obtain ⟨wk, rfl⟩ : ∃ wk, wk = wr := ⟨wr, rfl⟩
      have hltI : (k : Int) < (n : Int) := by omega
      have HLT := Lib.hid hlt
      go_wp2
      go_loopw [9, 10] (fun r j wi => ∃ (m c9 p2 : Nat) (a9 : Option Addr) (xs : List Int), m ≤ n ∧ j = .int .i64 (m : Int) ∧ r = .slice a9 m c9 ∧ IE w wk wi R0 p2 wk.heap.size a9 m c9 xs ∧ p2 ≤ p' + 2 * m) (fun _ j _ => n - (intOf j).toNat)
      case atStart => exact ⟨0, 0, _, _, _, Nat.zero_le _, rfl, rfl, HI0.out, by omega⟩
      case round =>
        obtain ⟨m, c9, p2, a9, xs, hm, rfl, rfl, hie, hp2⟩ := hrel
        have HIE := Lib.hid hie
        clear hie HI0
        by_cases hlm : m < n
        · have hlmI : (m : Int) < (n : Int) := by omega
          have HLM := Lib.hid hlm
          have HAP := Lib.hid (fun (W : World) (p3 : Nat) (v : Int) (h : IE w wk W R0 p3 wk.heap.size a9 m c9 xs) => And.intro (h.row.alloc (.cells #[.int .i64 v] 3)) (And.intro (cell_of_row _ _ 0 _ _ _ (heap_alloc_last W (.cells #[.int .i64 v] 3))) (And.intro (Nat.le_trans h.sz (alloc_belowX W (.cells #[.int .i64 v] 3)).size) ((Below.refl wk.heap.size W).alloc h.sz (.cells #[.int .i64 v] 3)))))
          clear hlm
          by_cases hij : k = m
          · subst hij
            have z : ((k : Int) != (k : Int)) = false := by simp
            have A0 := Lib.hid (HAP.out wr p2 0 HIE.out)
            go_wp2_with (at_builtin; refine wpList_append1 (.tmp 42) (.tmp 44) wk.heap.size a9 k c9 xs ⟨wr.heap.size, 0, none⟩ 0 rfl rfl rfl rfl A0.out.1 A0.out.2.1 (by omega) A0.out.2.2.1 ?_; intro a4 cap4 w4 hg4 hb4; have HIE4 := Lib.hid (HIE.out.app hg4 (A0.out.2.2.2.trans hb4) hRw HB.out); clear hg4 hb4)
            go_roundw
            case rel => exact ⟨k + 1, cap4, p2, a4, _, HLM.out, by go_num, rfl, HIE4.out, by omega⟩
            case measure => have := HLM.out; simp [intOf]; omega
          · have z : ((k : Int) != (m : Int)) = true := by simp; omega
            have HPK := Lib.hid (pick_any R0 p2 5 wr HIE.out.rd (by omega) (by omega) (by omega))
            go_wp2_with fail
            refine HPK.out.mono ?_
            rintro e w3 ⟨x, ⟨hx, hx'⟩, rfl, r3, g3⟩
            have HIE3 := Lib.hid (HIE.out.pick r3 g3 hRw HB.out)
            clear r3 g3 HPK hx hx'
            by_cases hxd : x < D
            · go_wp2_with fail
              refine (pick_any R0 (p2 + 1) 20 w3 HIE3.out.rd (by omega) (by omega) (by omega)).mono ?_
              rintro e w5 ⟨y, ⟨hy, hy'⟩, rfl, r5, g5⟩
              have HIE5 := Lib.hid (HIE3.out.pick r5 g5 hRw HB.out)
              have q1 := wrapW (n := 1 + y) (by omega)
              have q1' := wrapW' (n := 1 + y) (by omega)
              have A5 := Lib.hid (HAP.out w5 (p2 + 1 + 1) (1 + y) HIE5.out)
              clear r5 g5 hy hy'
              go_wp2_with (at_builtin; refine wpList_append1 (.tmp 42) (.tmp 44) wk.heap.size a9 m c9 xs ⟨w5.heap.size, 0, none⟩ (1 + y) rfl rfl rfl rfl A5.out.1 A5.out.2.1 (by omega) A5.out.2.2.1 ?_; intro a4 cap4 w4 hg4 hb4; have HIE4 := Lib.hid (HIE5.out.app hg4 (A5.out.2.2.2.trans hb4) hRw HB.out); clear hg4 hb4)
              go_roundw
              case rel => exact ⟨m + 1, cap4, p2 + 1 + 1, a4, _, HLM.out, by go_num, rfl, HIE4.out, by omega⟩
              case measure => have := HLM.out; simp [intOf]; omega
            · have A5 := Lib.hid (HAP.out w3 (p2 + 1) 0 HIE3.out)
              go_wp2_with (at_builtin; refine wpList_append1 (.tmp 42) (.tmp 44) wk.heap.size a9 m c9 xs ⟨w3.heap.size, 0, none⟩ 0 rfl rfl rfl rfl A5.out.1 A5.out.2.1 (by omega) A5.out.2.2.1 ?_; intro a4 cap4 w4 hg4 hb4; have HIE4 := Lib.hid (HIE3.out.app hg4 (A5.out.2.2.2.trans hb4) hRw HB.out); clear hg4 hb4)
              go_roundw
              case rel => exact ⟨m + 1, cap4, p2 + 1, a4, _, HLM.out, by go_num, rfl, HIE4.out, by omega⟩
              case measure => have := HLM.out; simp [intOf]; omega
        · obtain rfl : n = m := by omega
          obtain ⟨b9, f9, rfl, hb9, hb9l, _, _, _⟩ := HIE.out.row.row (by omega)
          have T9 := Lib.hid ((HT.out.keep HIE.out.sz HIE.out.kp).next (alloc_belowX wr (.cells #[.slice (some ⟨b9, 0, none⟩) n c9] 27)))
          have HX9 := Lib.hid ((HIE.out.row.base_le HB.out).alloc (.cells #[.slice (some ⟨b9, 0, none⟩) n c9] 27))
          have HC9 := Lib.hid (cell_of_row _ _ 0 _ _ _ (heap_alloc_last wr (.cells #[.slice (some ⟨b9, 0, none⟩) n c9] 27)))
          have HS9 := Lib.hid (Nat.le_trans (Nat.le_trans HB.out HIE.out.sz) (alloc_belowX wr (.cells #[.slice (some ⟨b9, 0, none⟩) n c9] 27)).size)
          have HL9 := Lib.hid (And.intro hb9 (show b9 < (wr.alloc (.cells #[.slice (some ⟨b9, 0, none⟩) n c9] 27)).heap.size by simp; omega))
          have HGA := Lib.hid (grown_alloc HIE.out.g (.cells #[.slice (some ⟨b9, 0, none⟩) n c9] 27))
          have HRA := Lib.hid (HIE.out.rd.alloc (.cells #[.slice (some ⟨b9, 0, none⟩) n c9] 27))
          have hgr := T9.out.gr
          rw [HRl.out] at hgr
          have HGR := Lib.hid hgr
          clear hgr hb9 hb9l
          go_wp2_with (at_builtin; refine wpList_appendV (.tmp 46) (.tmp 48) w.heap.size a k cap vs ⟨wr.heap.size, 0, none⟩ (some ⟨b9, 0, none⟩) n c9 rfl rfl rfl rfl HGR.out HC9.out (by omega) HS9.out ?_; intro a7 cap7 w7 hg7 hgb7; have HG7 := Lib.hid hg7; have HGB7 := Lib.hid hgb7; clear hg7 hgb7)
          have hbel := HGR.out.keepsBelow HGB7.out HS9.out
          have T7 := Lib.hid (T9.out.app HX9.out (fun i hi => Nat.lt_of_lt_of_le (HT.out.lt i hi) HL9.out.1) HL9.out.2 (by rw [HRl.out]; exact HG7.out) (by rw [HRl.out]; exact HGB7.out))
          have R7 := Lib.hid (HRA.out.below hbel hRw)
          have G7 := Lib.hid (grown_below HGA.out hbel (Nat.le_refl _))
          clear hbel
          have HXL := HX9.out.len
          go_roundw
          case rel =>
            refine ⟨k + 1, cap7, p2, a7, _, _, _, by have := HLT.out; omega, by go_num, rfl, by rw [List.length_append, HRl.out]; rfl, fun i hi => ?_, T7.out, R7.out, by omega, G7.out⟩
            rw [rwI_app]
            by_cases e : i = R.length
            · rw [if_pos e]; exact HXL
            · rw [if_neg e]; exact HRr.out i (by have := HRl.out; omega)
          case measure => have := HLT.out; simp [intOf]; omega
    · obtain rfl : n = k := by omega
      have hp9 : p' ≤ p + 100 := by omega
      have HOD := Lib.hid (odd_any R0 p' bad wr HR.out (by omega) (by omega) (by omega))
      go_wp2_with fail
      refine HOD.out.mono ?_
      rintro e w3 ⟨b, rfl, r3, g3⟩
      have R3 := Lib.hid r3
      have T3 := Lib.hid (HT.out.read g3 hRw)
      have G3 := Lib.hid (grown_trans HG.out g3)
      clear r3 g3 HOD
      have hRl := HRl.out
      cases b
      · go_wp2
        go_ret
        exact ⟨a, cap, R, _, by rw [hRl]; rfl, by omega, T3.out.room, T3.out.tif, R3.out, by omega, G3.out⟩
      · go_wp2_with fail
        refine (pick_any R0 (p' + 1) 3 w3 R3.out (by omega) (by omega) (by omega)).mono ?_
        rintro e w4 ⟨x, ⟨hx, hx'⟩, rfl, r4, g4⟩
        have R4 := Lib.hid r4
        have T4 := Lib.hid (T3.out.read g4 hRw)
        have G4 := Lib.hid (grown_trans G3.out g4)
        clear r4 g4 R3 T3 G3
        have hxx : x = 0 ∨ x = 1 ∨ x = 2 := by omega
        obtain ⟨g, cur, rfl, hgA, hgh, hgc⟩ := T4.out.gr.at_ (by omega)
        have HGC := Lib.hid hgc
        have hcell : ∀ i, i < n → ∃ c, w4.cell? ⟨g, i, none⟩ = some (.slice (some ⟨blk i, 0, none⟩) n c) ∧ Grow .i64 3 w4 w.heap.size (some ⟨blk i, 0, none⟩) n c (rwI R i) := fun i hi => by
          obtain ⟨c, h1, h2⟩ := T4.out.rows i (by omega)
          rw [HRr.out i hi] at h1 h2
          exact ⟨c, HGC.out i _ (by omega) h1, h2⟩
        have hblk : ∀ i, i < n → w.heap.size ≤ blk i := fun i hi => by
          obtain ⟨c, _, h2⟩ := hcell i hi
          obtain ⟨b, f, e, h3, _⟩ := h2.row (by omega)
          injection e with e
          injection e with e
          rw [e]; exact h3
        have HCell := Lib.hid hcell
        have HBlk := Lib.hid hblk
        have HGA := Lib.hid hgA
        clear hcell hblk hgc hx hx'
        rcases hxx with rfl | rfl | rfl
        · obtain ⟨c0, hc0, hg0⟩ := HCell.out 0 (by omega)
          have d0 := hg0.rowF.cell (k := 0) (by omega)
          have f0 := hg0.rowF.frozen 0
          have hnI : (0 : Int) < (n : Int) := by omega
          have HB5 := Lib.hid ((Below.refl w.heap.size w4).setCell (p := ⟨blk 0, 0, none⟩) (HBlk.out 0 (by omega)) (.int .i64 1))
          have T5 := Lib.hid (T4.out.put (i := 0) (j := 0) (by omega) 1)
          have R5 := Lib.hid (R4.out.below HB5.out hRw)
          have G5 := Lib.hid (grown_below G4.out HB5.out (Nat.le_refl _))
          clear hg0 hgh
          go_wp2
          go_ret
          refine ⟨_, cap, R.set 0 ((rwI R 0).set 0 1), _, by rw [List.length_set, hRl]; rfl, by rw [List.length_set]; omega, ?_, T5.out.tif, R5.out, by omega, G5.out⟩
          exact T5.out.room
        · obtain ⟨m, hm1⟩ : ∃ m : Nat, (n : Int) - 1 = (m : Int) := ⟨n - 1, by omega⟩
          have hmn : m + 1 = n := by omega
          have q2 : IntKind.i64.wrap ((n : Int) - 1) = (m : Int) := by rw [wrapW (by omega), hm1]
          have q2' : wrap64 ((n : Int) - 1) = (m : Int) := by rw [wrapW' (by omega), hm1]
          have hmlt : (m : Int) < (n : Int) := by omega
          obtain ⟨cm, hcm, hgm⟩ := HCell.out m (by omega)
          have T5 := Lib.hid (T4.out.next (alloc_belowX w4 (.cells #[.int .i64 0] 3)))
          have HGm := Lib.hid (hgm.alloc (.cells #[.int .i64 0] 3))
          have HC5 := Lib.hid (cell_of_row _ _ 0 _ _ _ (heap_alloc_last w4 (.cells #[.int .i64 0] 3)))
          have HS5 := Lib.hid (Nat.le_trans G4.out.size (alloc_belowX w4 (.cells #[.int .i64 0] 3)).size)
          have R5 := Lib.hid (R4.out.alloc (.cells #[.int .i64 0] 3))
          have G5 := Lib.hid (grown_alloc G4.out (.cells #[.int .i64 0] 3))
          clear hgm hgh hm1
          have HAP := Lib.hid (fun a6 cap6 w6 h => app1_row (n := n) (xs := rwI R m) (v := 0) (a' := a6) (c' := cap6) (W' := w6) T5.out (by omega) (((alloc_belowX w4 _).cell (World.block_lt_of_cell? _ _ hcm)).trans hcm) h)
          go_wp2_with (at_builtin; (refine wpList_app1k (.tmp 81) (.tmp 82) w.heap.size (some ⟨blk m, 0, none⟩) n cm (rwI R m) ⟨w4.heap.size, 0, none⟩ 0 rfl rfl rfl rfl HGm.out HC5.out (by omega) HS5.out ?_; intro a6 cap6 w6 happ; obtain ⟨hk6, hcg, hfg, hg6, hb6⟩ := HAP.out _ _ _ happ; have HG6 := Lib.hid hg6; have HB6 := Lib.hid hb6; have HK6 := Lib.hid hk6; clear hg6 hb6 hk6 happ))
          have HT6 := Lib.hid (T5.out.row (by omega) HG6.out HB6.out.size HK6.out)
          have HB7 := Lib.hid (HB6.out.setCell (p := ⟨g, m, none⟩) HGA.out (.slice a6 (n + 1) cap6))
          have R7 := Lib.hid (R5.out.below HB7.out hRw)
          have G7 := Lib.hid (grown_below G5.out HB7.out (Nat.le_refl _))
          go_wp2
          go_ret
          refine ⟨some ⟨g, 0, none⟩, cap, R.set m (rwI R m ++ [0]), _, by rw [List.length_set, hRl]; rfl, by rw [List.length_set]; omega, ?_, HT6.out, R7.out, by omega, G7.out⟩
          rw [List.length_set]
          exact T4.out.room
        · obtain ⟨m, hm1⟩ : ∃ m : Nat, (n : Int) - 1 = (m : Int) := ⟨n - 1, by omega⟩
          have hmn : m + 1 = n := by omega
          have q2 : IntKind.i64.wrap ((n : Int) - 1) = (m : Int) := by rw [wrapW (by omega), hm1]
          have q2' : wrap64 ((n : Int) - 1) = (m : Int) := by rw [wrapW' (by omega), hm1]
          have hmlt : (m : Int) < (n : Int) := by omega
          have hnI0 : (0 : Int) < (n : Int) := by omega
          obtain ⟨c0, hv0, _⟩ := T4.out.rows 0 (by omega)
          rw [HRr.out 0 (by omega)] at hv0
          have HV0 := Lib.hid hv0
          have TZ : Hid (TW w4.drew w.heap.size (some ⟨g, 0, none⟩) cap R blk vs) := Lib.hid (T4.out.next (below_drewN (Below.refl _ _) 1))
          have RZ : Hid (Rd w4.drew R0 (p' + 1 + 1)) := R4.out
          have GZ : Hid (w.grownBy w4.drew (some R0)) := Lib.hid (grown_below G4.out (below_drewN (Below.refl w4.heap.size w4) 1) G4.out.size)
          have hn0 : 0 < n := by omega
          clear hm1 hv0 hgh HCell HGC
          go_wp2_with fail
          refine wp_region_any (by kernel_rfl) ?_
          change wpAny _ _ _ _ _ _ _ (World.drew _)
          generalize w4.drew = u0 at *
          -- region 18
          refine wpAny_take (i := 0) (v := ?v1) rfl (by kernel_rfl) (by kernel_rfl) (by kernel_rfl) (fun _ _ _ h => h) (Or.inl ⟨by kernel_rfl, ?h1⟩) ?_
          case h1 => intro w; go_simp; try with_reducible rfl
          go_simp
          refine wpAny_take (i := 1) (v := ?v2) rfl (by kernel_rfl) (by kernel_rfl) (by kernel_rfl) (fun _ _ _ h => h) (Or.inl ⟨by kernel_rfl, ?h2⟩) ?_
          case h2 => intro w; go_simp; try with_reducible rfl
          go_simp
          refine wpAny_take (i := 3) (v := ?v3) rfl (by kernel_rfl) (by kernel_rfl) (by kernel_rfl) (fun _ _ _ h => h) (Or.inl ⟨by kernel_rfl, ?h3⟩) ?_
          case h3 => intro w; go_simp; try with_reducible rfl
          go_simp
          refine wpAny_take (i := 4) (v := ?v4) rfl (by kernel_rfl) (by kernel_rfl) (by kernel_rfl) (fun _ _ _ h => h) (Or.inl ⟨by kernel_rfl, ?h4⟩) ?_
          case h4 => intro w; go_simp; try with_reducible rfl
          go_simp
          refine wpAny_take (i := 6) (v := ?v5) rfl (by kernel_rfl) (by kernel_rfl) (by kernel_rfl) (fun _ _ _ h => h) (Or.inl ⟨by kernel_rfl, ?h5⟩) ?_
          case h5 => intro w; go_simp; try with_reducible rfl
          go_simp
          refine wpAny_ready (rs := [2, 5, 7]) (by kernel_rfl) (by simp) (AllReady.cons rfl (fun K hK => ?_) (AllReady.cons rfl (fun K hK => ?_) (AllReady.cons rfl (fun K hK => ?_) AllReady.nil)))
          · skip
            have hcl : u0.cell? ⟨g, 0, none⟩ = some (.slice (some ⟨blk 0, 0, none⟩) n c0) := TZ.out.cellV (by omega) HV0.out
            go_simp
            refine hK _ _ ?_
            clear hK K hcl
            refine wpAny_ready (rs := [5, 7]) (by kernel_rfl) (by simp) (AllReady.cons rfl (fun K hK => ?_) (AllReady.cons rfl (fun K hK => ?_) AllReady.nil))
            · skip
              go_simp
              refine hK _ _ ?_
              clear hK K
              have T6 := Lib.hid (TZ.out.next (alloc_belowX u0 (.cells #[.int .i64 (-1), .int .i64 101] 3)))
              have R6 := Lib.hid (RZ.out.alloc (.cells #[.int .i64 (-1), .int .i64 101] 3))
              have G6 := Lib.hid (grown_alloc GZ.out (.cells #[.int .i64 (-1), .int .i64 101] 3))
              obtain ⟨cb, hcb⟩ : ∃ cb, cb = u0.heap.size := ⟨_, rfl⟩
              have C6 : Hid (TwoN (u0.alloc (.cells #[.int .i64 (-1), .int .i64 101] 3)) w.heap.size cb) := by rw [hcb]; exact twoN_new u0 w.heap.size GZ.out.size
              rw [← hcb]
              clear hcb
              generalize u0.alloc (.cells #[.int .i64 (-1), .int .i64 101] 3) = u6 at *
              refine wpAny_ready (rs := [7]) (by kernel_rfl) (by simp) (AllReady.cons rfl (fun K hK => ?_) AllReady.nil)
              go_simp
              refine (pick_any R0 (p' + 1 + 1) 2 u6 R6.out (by omega) (by omega) (by omega)).mono ?_
              rintro e u7 ⟨y, ⟨hy, hy'⟩, rfl, r7, g7⟩
              have T7 := Lib.hid (T6.out.read g7 hRw)
              have R7 := Lib.hid r7
              have C7 := Lib.hid (C6.out.read g7 hRw)
              have G7 := Lib.hid (grown_trans G6.out g7)
              clear r7 g7
              go_simp
              refine hK _ _ ?_
              clear hK K
              obtain ⟨yn, rfl⟩ := Int.eq_ofNat_of_zero_le hy
              have hynI : (yn : Int) < 2 := hy'
              refine wpAny_take (i := 8) (v := ?v8) rfl (by kernel_rfl) (by kernel_rfl) (by kernel_rfl) (fun _ _ _ h => h) (Or.inl ⟨by kernel_rfl, ?h8⟩) ?_
              case h8 => intro w; go_simp; try with_reducible rfl
              go_simp
              refine wpAny_ready (rs := [9]) (by kernel_rfl) (by simp) (AllReady.cons rfl (fun K hK => ?_) AllReady.nil)
              obtain ⟨vy, hvy⟩ := C7.out.cell (i := yn) (by omega)
              go_simp
              refine hK _ _ ?_
              clear hK K hvy
              refine wpAny_take (i := 10) (v := ?v9) rfl (by kernel_rfl) (by kernel_rfl) (by kernel_rfl) (fun _ _ _ h => h) (Or.inl ⟨by kernel_rfl, ?h9⟩) ?_
              case h9 => intro w; go_simp; try with_reducible rfl
              go_simp
              refine wpAny_ready (rs := [11]) (by kernel_rfl) (by simp) (AllReady.cons rfl (fun K hK => ?_) AllReady.nil)
              have hg0 := T7.out.growV (by omega) HV0.out
              have d0 := hg0.rowF.cell (k := m) (by rw [HRr.out 0 (by omega)]; omega)
              have f0 := hg0.rowF.frozen m
              have HB9 := Lib.hid ((Below.refl w.heap.size u7).setCell (p := ⟨blk 0, m, none⟩) (HBlk.out 0 (by omega)) (.int .i64 vy))
              have T9 := Lib.hid (T7.out.put (i := 0) (j := m) (by omega) vy)
              have R9 := Lib.hid (R7.out.below HB9.out hRw)
              have G9 := Lib.hid (grown_below G7.out HB9.out (Nat.le_refl _))
              clear hg0
              go_simp
              refine hK _ _ ?_
              clear hK K d0 f0
              refine wpAny_done (by kernel_rfl) ?_ _
              go_wp2
              go_ret
              refine ⟨_, cap, R.set 0 ((rwI R 0).set m vy), _, by rw [List.length_set, hRl]; rfl, by rw [List.length_set]; omega, ?_, T9.out.tif, R9.out, by omega, G9.out⟩
              exact T9.out.room
            · skip
              go_simp
              refine (pick_any R0 (p' + 1 + 1) 2 u0 RZ.out (by omega) (by omega) (by omega)).mono ?_
              rintro e u10 ⟨y, ⟨hy, hy'⟩, rfl, r10, g10⟩
              have T10 := Lib.hid (TZ.out.read g10 hRw)
              have R10 := Lib.hid r10
              have G10 := Lib.hid (grown_trans GZ.out g10)
              clear r10 g10
              go_simp
              refine hK _ _ ?_
              clear hK K
              refine wpAny_ready (rs := [5]) (by kernel_rfl) (by simp) (AllReady.cons rfl (fun K hK => ?_) AllReady.nil)
              go_simp
              refine hK _ _ ?_
              clear hK K
              have T11 := Lib.hid (T10.out.next (alloc_belowX u10 (.cells #[.int .i64 (-1), .int .i64 101] 3)))
              have R11 := Lib.hid (R10.out.alloc (.cells #[.int .i64 (-1), .int .i64 101] 3))
              have G11 := Lib.hid (grown_alloc G10.out (.cells #[.int .i64 (-1), .int .i64 101] 3))
              obtain ⟨cb, hcb⟩ : ∃ cb, cb = u10.heap.size := ⟨_, rfl⟩
              have C11 : Hid (TwoN (u10.alloc (.cells #[.int .i64 (-1), .int .i64 101] 3)) w.heap.size cb) := by rw [hcb]; exact twoN_new u10 w.heap.size G10.out.size
              rw [← hcb]
              clear hcb
              generalize u10.alloc (.cells #[.int .i64 (-1), .int .i64 101] 3) = u11 at *
              obtain ⟨yn, rfl⟩ := Int.eq_ofNat_of_zero_le hy
              have hynI : (yn : Int) < 2 := hy'
              refine wpAny_take (i := 8) (v := ?v12) rfl (by kernel_rfl) (by kernel_rfl) (by kernel_rfl) (fun _ _ _ h => h) (Or.inl ⟨by kernel_rfl, ?h12⟩) ?_
              case h12 => intro w; go_simp; try with_reducible rfl
              go_simp
              refine wpAny_ready (rs := [9]) (by kernel_rfl) (by simp) (AllReady.cons rfl (fun K hK => ?_) AllReady.nil)
              obtain ⟨vy, hvy⟩ := C11.out.cell (i := yn) (by omega)
              go_simp
              refine hK _ _ ?_
              clear hK K hvy
              refine wpAny_take (i := 10) (v := ?v13) rfl (by kernel_rfl) (by kernel_rfl) (by kernel_rfl) (fun _ _ _ h => h) (Or.inl ⟨by kernel_rfl, ?h13⟩) ?_
              case h13 => intro w; go_simp; try with_reducible rfl
              go_simp
              refine wpAny_ready (rs := [11]) (by kernel_rfl) (by simp) (AllReady.cons rfl (fun K hK => ?_) AllReady.nil)
              have hg0 := T11.out.growV (by omega) HV0.out
              have d0 := hg0.rowF.cell (k := m) (by rw [HRr.out 0 (by omega)]; omega)
              have f0 := hg0.rowF.frozen m
              have HB9 := Lib.hid ((Below.refl w.heap.size u11).setCell (p := ⟨blk 0, m, none⟩) (HBlk.out 0 (by omega)) (.int .i64 vy))
              have T9 := Lib.hid (T11.out.put (i := 0) (j := m) (by omega) vy)
              have R9 := Lib.hid (R11.out.below HB9.out hRw)
              have G9 := Lib.hid (grown_below G11.out HB9.out (Nat.le_refl _))
              clear hg0
              go_simp
              refine hK _ _ ?_
              clear hK K d0 f0
              refine wpAny_done (by kernel_rfl) ?_ _
              go_wp2
              go_ret
              refine ⟨_, cap, R.set 0 ((rwI R 0).set m vy), _, by rw [List.length_set, hRl]; rfl, by rw [List.length_set]; omega, ?_, T9.out.tif, R9.out, by omega, G9.out⟩
              exact T9.out.room
          · skip
            go_simp
            refine hK _ _ ?_
            clear hK K
            have T14 := Lib.hid (TZ.out.next (alloc_belowX u0 (.cells #[.int .i64 (-1), .int .i64 101] 3)))
            have R14 := Lib.hid (RZ.out.alloc (.cells #[.int .i64 (-1), .int .i64 101] 3))
            have G14 := Lib.hid (grown_alloc GZ.out (.cells #[.int .i64 (-1), .int .i64 101] 3))
            obtain ⟨cb, hcb⟩ : ∃ cb, cb = u0.heap.size := ⟨_, rfl⟩
            have C14 : Hid (TwoN (u0.alloc (.cells #[.int .i64 (-1), .int .i64 101] 3)) w.heap.size cb) := by rw [hcb]; exact twoN_new u0 w.heap.size GZ.out.size
            rw [← hcb]
            clear hcb
            generalize u0.alloc (.cells #[.int .i64 (-1), .int .i64 101] 3) = u14 at *
            refine wpAny_ready (rs := [2, 7]) (by kernel_rfl) (by simp) (AllReady.cons rfl (fun K hK => ?_) (AllReady.cons rfl (fun K hK => ?_) AllReady.nil))
            · skip
              have hcl : u14.cell? ⟨g, 0, none⟩ = some (.slice (some ⟨blk 0, 0, none⟩) n c0) := T14.out.cellV (by omega) HV0.out
              go_simp
              refine hK _ _ ?_
              clear hK K hcl
              refine wpAny_ready (rs := [7]) (by kernel_rfl) (by simp) (AllReady.cons rfl (fun K hK => ?_) AllReady.nil)
              go_simp
              refine (pick_any R0 (p' + 1 + 1) 2 u14 R14.out (by omega) (by omega) (by omega)).mono ?_
              rintro e u15 ⟨y, ⟨hy, hy'⟩, rfl, r15, g15⟩
              have T15 := Lib.hid (T14.out.read g15 hRw)
              have R15 := Lib.hid r15
              have C15 := Lib.hid (C14.out.read g15 hRw)
              have G15 := Lib.hid (grown_trans G14.out g15)
              clear r15 g15
              go_simp
              refine hK _ _ ?_
              clear hK K
              obtain ⟨yn, rfl⟩ := Int.eq_ofNat_of_zero_le hy
              have hynI : (yn : Int) < 2 := hy'
              refine wpAny_take (i := 8) (v := ?v16) rfl (by kernel_rfl) (by kernel_rfl) (by kernel_rfl) (fun _ _ _ h => h) (Or.inl ⟨by kernel_rfl, ?h16⟩) ?_
              case h16 => intro w; go_simp; try with_reducible rfl
              go_simp
              refine wpAny_ready (rs := [9]) (by kernel_rfl) (by simp) (AllReady.cons rfl (fun K hK => ?_) AllReady.nil)
              obtain ⟨vy, hvy⟩ := C15.out.cell (i := yn) (by omega)
              go_simp
              refine hK _ _ ?_
              clear hK K hvy
              refine wpAny_take (i := 10) (v := ?v17) rfl (by kernel_rfl) (by kernel_rfl) (by kernel_rfl) (fun _ _ _ h => h) (Or.inl ⟨by kernel_rfl, ?h17⟩) ?_
              case h17 => intro w; go_simp; try with_reducible rfl
              go_simp
              refine wpAny_ready (rs := [11]) (by kernel_rfl) (by simp) (AllReady.cons rfl (fun K hK => ?_) AllReady.nil)
              have hg0 := T15.out.growV (by omega) HV0.out
              have d0 := hg0.rowF.cell (k := m) (by rw [HRr.out 0 (by omega)]; omega)
              have f0 := hg0.rowF.frozen m
              have HB9 := Lib.hid ((Below.refl w.heap.size u15).setCell (p := ⟨blk 0, m, none⟩) (HBlk.out 0 (by omega)) (.int .i64 vy))
              have T9 := Lib.hid (T15.out.put (i := 0) (j := m) (by omega) vy)
              have R9 := Lib.hid (R15.out.below HB9.out hRw)
              have G9 := Lib.hid (grown_below G15.out HB9.out (Nat.le_refl _))
              clear hg0
              go_simp
              refine hK _ _ ?_
              clear hK K d0 f0
              refine wpAny_done (by kernel_rfl) ?_ _
              go_wp2
              go_ret
              refine ⟨_, cap, R.set 0 ((rwI R 0).set m vy), _, by rw [List.length_set, hRl]; rfl, by rw [List.length_set]; omega, ?_, T9.out.tif, R9.out, by omega, G9.out⟩
              exact T9.out.room
            · skip
              go_simp
              refine (pick_any R0 (p' + 1 + 1) 2 u14 R14.out (by omega) (by omega) (by omega)).mono ?_
              rintro e u18 ⟨y, ⟨hy, hy'⟩, rfl, r18, g18⟩
              have T18 := Lib.hid (T14.out.read g18 hRw)
              have R18 := Lib.hid r18
              have C18 := Lib.hid (C14.out.read g18 hRw)
              have G18 := Lib.hid (grown_trans G14.out g18)
              clear r18 g18
              go_simp
              refine hK _ _ ?_
              clear hK K
              obtain ⟨yn, rfl⟩ := Int.eq_ofNat_of_zero_le hy
              have hynI : (yn : Int) < 2 := hy'
              refine wpAny_take (i := 8) (v := ?v19) rfl (by kernel_rfl) (by kernel_rfl) (by kernel_rfl) (fun _ _ _ h => h) (Or.inl ⟨by kernel_rfl, ?h19⟩) ?_
              case h19 => intro w; go_simp; try with_reducible rfl
              go_simp
              refine wpAny_ready (rs := [2, 9]) (by kernel_rfl) (by simp) (AllReady.cons rfl (fun K hK => ?_) (AllReady.cons rfl (fun K hK => ?_) AllReady.nil))
              · skip
                have hcl : u18.cell? ⟨g, 0, none⟩ = some (.slice (some ⟨blk 0, 0, none⟩) n c0) := T18.out.cellV (by omega) HV0.out
                go_simp
                refine hK _ _ ?_
                clear hK K hcl
                refine wpAny_ready (rs := [9]) (by kernel_rfl) (by simp) (AllReady.cons rfl (fun K hK => ?_) AllReady.nil)
                obtain ⟨vy, hvy⟩ := C18.out.cell (i := yn) (by omega)
                go_simp
                refine hK _ _ ?_
                clear hK K hvy
                refine wpAny_take (i := 10) (v := ?v20) rfl (by kernel_rfl) (by kernel_rfl) (by kernel_rfl) (fun _ _ _ h => h) (Or.inl ⟨by kernel_rfl, ?h20⟩) ?_
                case h20 => intro w; go_simp; try with_reducible rfl
                go_simp
                refine wpAny_ready (rs := [11]) (by kernel_rfl) (by simp) (AllReady.cons rfl (fun K hK => ?_) AllReady.nil)
                have hg0 := T18.out.growV (by omega) HV0.out
                have d0 := hg0.rowF.cell (k := m) (by rw [HRr.out 0 (by omega)]; omega)
                have f0 := hg0.rowF.frozen m
                have HB9 := Lib.hid ((Below.refl w.heap.size u18).setCell (p := ⟨blk 0, m, none⟩) (HBlk.out 0 (by omega)) (.int .i64 vy))
                have T9 := Lib.hid (T18.out.put (i := 0) (j := m) (by omega) vy)
                have R9 := Lib.hid (R18.out.below HB9.out hRw)
                have G9 := Lib.hid (grown_below G18.out HB9.out (Nat.le_refl _))
                clear hg0
                go_simp
                refine hK _ _ ?_
                clear hK K d0 f0
                refine wpAny_done (by kernel_rfl) ?_ _
                go_wp2
                go_ret
                refine ⟨_, cap, R.set 0 ((rwI R 0).set m vy), _, by rw [List.length_set, hRl]; rfl, by rw [List.length_set]; omega, ?_, T9.out.tif, R9.out, by omega, G9.out⟩
                exact T9.out.room
              · skip
                obtain ⟨vy, hvy⟩ := C18.out.cell (i := yn) (by omega)
                go_simp
                refine hK _ _ ?_
                clear hK K hvy
                refine wpAny_ready (rs := [2]) (by kernel_rfl) (by simp) (AllReady.cons rfl (fun K hK => ?_) AllReady.nil)
                have hcl : u18.cell? ⟨g, 0, none⟩ = some (.slice (some ⟨blk 0, 0, none⟩) n c0) := T18.out.cellV (by omega) HV0.out
                go_simp
                refine hK _ _ ?_
                clear hK K hcl
                refine wpAny_take (i := 10) (v := ?v21) rfl (by kernel_rfl) (by kernel_rfl) (by kernel_rfl) (fun _ _ _ h => h) (Or.inl ⟨by kernel_rfl, ?h21⟩) ?_
                case h21 => intro w; go_simp; try with_reducible rfl
                go_simp
                refine wpAny_ready (rs := [11]) (by kernel_rfl) (by simp) (AllReady.cons rfl (fun K hK => ?_) AllReady.nil)
                have hg0 := T18.out.growV (by omega) HV0.out
                have d0 := hg0.rowF.cell (k := m) (by rw [HRr.out 0 (by omega)]; omega)
                have f0 := hg0.rowF.frozen m
                have HB9 := Lib.hid ((Below.refl w.heap.size u18).setCell (p := ⟨blk 0, m, none⟩) (HBlk.out 0 (by omega)) (.int .i64 vy))
                have T9 := Lib.hid (T18.out.put (i := 0) (j := m) (by omega) vy)
                have R9 := Lib.hid (R18.out.below HB9.out hRw)
                have G9 := Lib.hid (grown_below G18.out HB9.out (Nat.le_refl _))
                clear hg0
                go_simp
                refine hK _ _ ?_
                clear hK K d0 f0
                refine wpAny_done (by kernel_rfl) ?_ _
                go_wp2
                go_ret
                refine ⟨_, cap, R.set 0 ((rwI R 0).set m vy), _, by rw [List.length_set, hRl]; rfl, by rw [List.length_set]; omega, ?_, T9.out.tif, R9.out, by omega, G9.out⟩
                exact T9.out.room
          · skip
            go_simp
            refine (pick_any R0 (p' + 1 + 1) 2 u0 RZ.out (by omega) (by omega) (by omega)).mono ?_
            rintro e u22 ⟨y, ⟨hy, hy'⟩, rfl, r22, g22⟩
            have T22 := Lib.hid (TZ.out.read g22 hRw)
            have R22 := Lib.hid r22
            have G22 := Lib.hid (grown_trans GZ.out g22)
            clear r22 g22
            go_simp
            refine hK _ _ ?_
            clear hK K
            refine wpAny_ready (rs := [2, 5]) (by kernel_rfl) (by simp) (AllReady.cons rfl (fun K hK => ?_) (AllReady.cons rfl (fun K hK => ?_) AllReady.nil))
            · skip
              have hcl : u22.cell? ⟨g, 0, none⟩ = some (.slice (some ⟨blk 0, 0, none⟩) n c0) := T22.out.cellV (by omega) HV0.out
              go_simp
              refine hK _ _ ?_
              clear hK K hcl
              refine wpAny_ready (rs := [5]) (by kernel_rfl) (by simp) (AllReady.cons rfl (fun K hK => ?_) AllReady.nil)
              go_simp
              refine hK _ _ ?_
              clear hK K
              have T23 := Lib.hid (T22.out.next (alloc_belowX u22 (.cells #[.int .i64 (-1), .int .i64 101] 3)))
              have R23 := Lib.hid (R22.out.alloc (.cells #[.int .i64 (-1), .int .i64 101] 3))
              have G23 := Lib.hid (grown_alloc G22.out (.cells #[.int .i64 (-1), .int .i64 101] 3))
              obtain ⟨cb, hcb⟩ : ∃ cb, cb = u22.heap.size := ⟨_, rfl⟩
              have C23 : Hid (TwoN (u22.alloc (.cells #[.int .i64 (-1), .int .i64 101] 3)) w.heap.size cb) := by rw [hcb]; exact twoN_new u22 w.heap.size G22.out.size
              rw [← hcb]
              clear hcb
              generalize u22.alloc (.cells #[.int .i64 (-1), .int .i64 101] 3) = u23 at *
              obtain ⟨yn, rfl⟩ := Int.eq_ofNat_of_zero_le hy
              have hynI : (yn : Int) < 2 := hy'
              refine wpAny_take (i := 8) (v := ?v24) rfl (by kernel_rfl) (by kernel_rfl) (by kernel_rfl) (fun _ _ _ h => h) (Or.inl ⟨by kernel_rfl, ?h24⟩) ?_
              case h24 => intro w; go_simp; try with_reducible rfl
              go_simp
              refine wpAny_ready (rs := [9]) (by kernel_rfl) (by simp) (AllReady.cons rfl (fun K hK => ?_) AllReady.nil)
              obtain ⟨vy, hvy⟩ := C23.out.cell (i := yn) (by omega)
              go_simp
              refine hK _ _ ?_
              clear hK K hvy
              refine wpAny_take (i := 10) (v := ?v25) rfl (by kernel_rfl) (by kernel_rfl) (by kernel_rfl) (fun _ _ _ h => h) (Or.inl ⟨by kernel_rfl, ?h25⟩) ?_
              case h25 => intro w; go_simp; try with_reducible rfl
              go_simp
              refine wpAny_ready (rs := [11]) (by kernel_rfl) (by simp) (AllReady.cons rfl (fun K hK => ?_) AllReady.nil)
              have hg0 := T23.out.growV (by omega) HV0.out
              have d0 := hg0.rowF.cell (k := m) (by rw [HRr.out 0 (by omega)]; omega)
              have f0 := hg0.rowF.frozen m
              have HB9 := Lib.hid ((Below.refl w.heap.size u23).setCell (p := ⟨blk 0, m, none⟩) (HBlk.out 0 (by omega)) (.int .i64 vy))
              have T9 := Lib.hid (T23.out.put (i := 0) (j := m) (by omega) vy)
              have R9 := Lib.hid (R23.out.below HB9.out hRw)
              have G9 := Lib.hid (grown_below G23.out HB9.out (Nat.le_refl _))
              clear hg0
              go_simp
              refine hK _ _ ?_
              clear hK K d0 f0
              refine wpAny_done (by kernel_rfl) ?_ _
              go_wp2
              go_ret
              refine ⟨_, cap, R.set 0 ((rwI R 0).set m vy), _, by rw [List.length_set, hRl]; rfl, by rw [List.length_set]; omega, ?_, T9.out.tif, R9.out, by omega, G9.out⟩
              exact T9.out.room
            · skip
              go_simp
              refine hK _ _ ?_
              clear hK K
              have T26 := Lib.hid (T22.out.next (alloc_belowX u22 (.cells #[.int .i64 (-1), .int .i64 101] 3)))
              have R26 := Lib.hid (R22.out.alloc (.cells #[.int .i64 (-1), .int .i64 101] 3))
              have G26 := Lib.hid (grown_alloc G22.out (.cells #[.int .i64 (-1), .int .i64 101] 3))
              obtain ⟨cb, hcb⟩ : ∃ cb, cb = u22.heap.size := ⟨_, rfl⟩
              have C26 : Hid (TwoN (u22.alloc (.cells #[.int .i64 (-1), .int .i64 101] 3)) w.heap.size cb) := by rw [hcb]; exact twoN_new u22 w.heap.size G22.out.size
              rw [← hcb]
              clear hcb
              generalize u22.alloc (.cells #[.int .i64 (-1), .int .i64 101] 3) = u26 at *
              obtain ⟨yn, rfl⟩ := Int.eq_ofNat_of_zero_le hy
              have hynI : (yn : Int) < 2 := hy'
              refine wpAny_take (i := 8) (v := ?v27) rfl (by kernel_rfl) (by kernel_rfl) (by kernel_rfl) (fun _ _ _ h => h) (Or.inl ⟨by kernel_rfl, ?h27⟩) ?_
              case h27 => intro w; go_simp; try with_reducible rfl
              go_simp
              refine wpAny_ready (rs := [2, 9]) (by kernel_rfl) (by simp) (AllReady.cons rfl (fun K hK => ?_) (AllReady.cons rfl (fun K hK => ?_) AllReady.nil))
              · skip
                have hcl : u26.cell? ⟨g, 0, none⟩ = some (.slice (some ⟨blk 0, 0, none⟩) n c0) := T26.out.cellV (by omega) HV0.out
                go_simp
                refine hK _ _ ?_
                clear hK K hcl
                refine wpAny_ready (rs := [9]) (by kernel_rfl) (by simp) (AllReady.cons rfl (fun K hK => ?_) AllReady.nil)
                obtain ⟨vy, hvy⟩ := C26.out.cell (i := yn) (by omega)
                go_simp
                refine hK _ _ ?_
                clear hK K hvy
                refine wpAny_take (i := 10) (v := ?v28) rfl (by kernel_rfl) (by kernel_rfl) (by kernel_rfl) (fun _ _ _ h => h) (Or.inl ⟨by kernel_rfl, ?h28⟩) ?_
                case h28 => intro w; go_simp; try with_reducible rfl
                go_simp
                refine wpAny_ready (rs := [11]) (by kernel_rfl) (by simp) (AllReady.cons rfl (fun K hK => ?_) AllReady.nil)
                have hg0 := T26.out.growV (by omega) HV0.out
                have d0 := hg0.rowF.cell (k := m) (by rw [HRr.out 0 (by omega)]; omega)
                have f0 := hg0.rowF.frozen m
                have HB9 := Lib.hid ((Below.refl w.heap.size u26).setCell (p := ⟨blk 0, m, none⟩) (HBlk.out 0 (by omega)) (.int .i64 vy))
                have T9 := Lib.hid (T26.out.put (i := 0) (j := m) (by omega) vy)
                have R9 := Lib.hid (R26.out.below HB9.out hRw)
                have G9 := Lib.hid (grown_below G26.out HB9.out (Nat.le_refl _))
                clear hg0
                go_simp
                refine hK _ _ ?_
                clear hK K d0 f0
                refine wpAny_done (by kernel_rfl) ?_ _
                go_wp2
                go_ret
                refine ⟨_, cap, R.set 0 ((rwI R 0).set m vy), _, by rw [List.length_set, hRl]; rfl, by rw [List.length_set]; omega, ?_, T9.out.tif, R9.out, by omega, G9.out⟩
                exact T9.out.room
              · skip
                obtain ⟨vy, hvy⟩ := C26.out.cell (i := yn) (by omega)
                go_simp
                refine hK _ _ ?_
                clear hK K hvy
                refine wpAny_ready (rs := [2]) (by kernel_rfl) (by simp) (AllReady.cons rfl (fun K hK => ?_) AllReady.nil)
                have hcl : u26.cell? ⟨g, 0, none⟩ = some (.slice (some ⟨blk 0, 0, none⟩) n c0) := T26.out.cellV (by omega) HV0.out
                go_simp
                refine hK _ _ ?_
                clear hK K hcl
                refine wpAny_take (i := 10) (v := ?v29) rfl (by kernel_rfl) (by kernel_rfl) (by kernel_rfl) (fun _ _ _ h => h) (Or.inl ⟨by kernel_rfl, ?h29⟩) ?_
                case h29 => intro w; go_simp; try with_reducible rfl
                go_simp
                refine wpAny_ready (rs := [11]) (by kernel_rfl) (by simp) (AllReady.cons rfl (fun K hK => ?_) AllReady.nil)
                have hg0 := T26.out.growV (by omega) HV0.out
                have d0 := hg0.rowF.cell (k := m) (by rw [HRr.out 0 (by omega)]; omega)
                have f0 := hg0.rowF.frozen m
                have HB9 := Lib.hid ((Below.refl w.heap.size u26).setCell (p := ⟨blk 0, m, none⟩) (HBlk.out 0 (by omega)) (.int .i64 vy))
                have T9 := Lib.hid (T26.out.put (i := 0) (j := m) (by omega) vy)
                have R9 := Lib.hid (R26.out.below HB9.out hRw)
                have G9 := Lib.hid (grown_below G26.out HB9.out (Nat.le_refl _))
                clear hg0
                go_simp
                refine hK _ _ ?_
                clear hK K d0 f0
                refine wpAny_done (by kernel_rfl) ?_ _
                go_wp2
                go_ret
                refine ⟨_, cap, R.set 0 ((rwI R 0).set m vy), _, by rw [List.length_set, hRl]; rfl, by rw [List.length_set]; omega, ?_, T9.out.tif, R9.out, by omega, G9.out⟩
                exact T9.out.room
          -- end of region 18
end Go.Proofs.Ytnmhiagnmfpipaa
