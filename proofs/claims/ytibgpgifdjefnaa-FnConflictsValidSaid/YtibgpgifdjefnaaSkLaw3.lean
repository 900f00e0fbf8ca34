/-
  The law of valid tables of conflicts, walked: it returns true for every list of bytes. Condition: bytes that can be read.
-/
import Derived.Test.YtibgpgifdjefnaaSkLaw1
import Derived.Test.YtibgpgifdjefnaaSkRows
import Derived.Deep.Cut
namespace Go.Proofs.Ytibgpgifdjefnaa
open Go.RowKit

theorem GVb.keep1 {w w' : World} {base n cap g : Nat} {vs : List Value} (h : GVb w base (some ⟨g, 0, none⟩) n cap vs) (hk : w'.heap[g]? = w.heap[g]?) : GVb w' base (some ⟨g, 0, none⟩) n cap vs := by
  refine ⟨h.1, ?_⟩
  rcases h.2 with h0 | ⟨g2, c2, cur, e, h1, hh, rest⟩
  · exact .inl h0
  · have e2 := e
    injection e2 with e2
    injection e2 with e2
    injection e2 with e2
    subst e2
    exact .inr ⟨g, c2, cur, e, h1, hk.trans hh, rest⟩
set_option maxRecDepth 10000 in
theorem GVb.blk {w : World} {base n cap g : Nat} {vs : List Value} (h : GVb w base (some ⟨g, 0, none⟩) n cap vs) : base ≤ g ∧ ∃ cur, w.heap[g]? = some (.cells cur 27 (0, 0)) := by
  rcases h.2 with ⟨e, _⟩ | ⟨g2, c2, cur, e, h1, hh, rest⟩
  · injection e with e; cases e
  · injection e with e
    injection e with e
    injection e with e
    subst e
    exact ⟨h1, cur, hh⟩
theorem GVb.lt {w : World} {base n cap g : Nat} {vs : List Value} (h : GVb w base (some ⟨g, 0, none⟩) n cap vs) : g < w.heap.size := by
  obtain ⟨_, cur, hh⟩ := h.blk
  exact (Array.getElem?_eq_some_iff.1 hh).1
/-- Both lists of the law: copies of all rows, and beginnings of the first ones. -/
structure CL (w4 W : World) (A : Nat) (R : List (List Bool)) (n ab as_ k m cb cs : Nat) (vb vs : List Value) (blk cps : Nat → Nat) : Prop where
  gb : GVb W A (some ⟨ab, 0, none⟩) k cb vb
  gs : GVb W A (some ⟨as_, 0, none⟩) m cs vs
  ne : ab ≠ as_
  br : BdR W A R k vb blk cps
  sm : ∀ i, i < m → ∃ ad cp, vs[i]? = some (.slice ad n cp) ∧ (n ≤ cp ∧ cp ≤ maxLen) ∧ Bls w4 A ad (rwB R i)
  bl : Below A w4 W
  sz : A ≤ w4.heap.size
section
variable {w4 W W' : World} {A n ab as_ k m cb cs : Nat} {R : List (List Bool)} {vb vs : List Value} {blk cps : Nat → Nat}
theorem CL.next (h : CL w4 W A R n ab as_ k m cb cs vb vs blk cps) (hb : Below W.heap.size W W') : CL w4 W' A R n ab as_ k m cb cs vb vs blk cps :=
  ⟨h.gb.next hb, h.gs.next hb, h.ne, h.br.next hb, h.sm, h.bl.trans (hb.mono (Nat.le_trans h.sz h.bl.size)), h.sz⟩
theorem below_by {w W W' : World} {A g : Nat} (h : Below A w W) (hs : A ≤ w.heap.size) (hg : W.grownBy W' (some g)) (h0 : A ≤ g) : Below A w W' := h.grown hg (Nat.le_trans hs h.size) fun k e => by injection e; omega
set_option maxRecDepth 10000 in
theorem BdR.other (h : BdR W A R k vb blk cps) {g : Nat} {cur : Array Value} (hc : W.heap[g]? = some (.cells cur 27 (0, 0))) (hg : W.grownBy W' (some g)) : BdR W' A R k vb blk cps := h.keep fun x c _ hh => hg.block x (Array.getElem?_eq_some_iff.1 hh).1 fun e => by
  injection e with e
  subst e
  rw [hc] at hh
  injection hh with hh
  injection hh with _ hh _
  exact absurd hh (by decide)
set_option maxRecDepth 10000 in
theorem CL.bad {g' cap' gr c1 : Nat} {f : Nat → Value} (h : CL w4 W A R n ab as_ k m cb cs vb vs blk cps) (h0 : g' = ab ∨ W.heap.size ≤ g') (h1 : GVb W' A (some ⟨g', 0, none⟩) (k + 1) cap' (vb ++ [.slice (some ⟨gr, 0, none⟩) (rwB R k).length c1])) (h2 : W.grownBy W' (some ab))
    (hA : A ≤ gr) (hc : (rwB R k).length ≤ c1 ∧ c1 ≤ maxLen) (hf : W.rowIs gr 4 c1 f) (hfe : ∀ j, j < (rwB R k).length → f j = .bool (bt (rwB R k) j)) (hlt : ∀ i, i < k → blk i < gr) :
    CL w4 W' A R n g' as_ (k + 1) m cap' cs (vb ++ [.slice (some ⟨gr, 0, none⟩) (rwB R k).length c1]) vs (fun i => if i = k then gr else blk i) (fun i => if i = k then c1 else cps i) := by
  obtain ⟨ha, cur, hcur⟩ := h.gb.blk
  have hsl := h.gs.lt
  have hb2 := h.br.other hcur h2
  have hf2 : W'.rowIs gr 4 c1 f := by
    obtain ⟨cc, hcc, _⟩ := id hf
    refine hf.of_block (h2.block gr hf.lt fun e => ?_)
    injection e with e
    subst e
    rw [hcur] at hcc
    injection hcc with hcc
    injection hcc with _ hcc _
    exact absurd hcc (by decide)
  refine ⟨h1, h.gs.keep1 (h2.block _ hsl fun e => h.ne (by injection e with e; exact e.symm)), ?_, hb2.snoc h.gb.len hlt hA hc hf2 hfe, h.sm, below_by h.bl h.sz h2 ha, h.sz⟩
  rcases h0 with rfl | h0
  · exact h.ne
  · omega
theorem CL.small {g' cap' cp : Nat} {ad : Option Addr} (h : CL w4 W A R n ab as_ k m cb cs vb vs blk cps) (h0 : g' = as_ ∨ W.heap.size ≤ g') (h1 : GVb W' A (some ⟨g', 0, none⟩) (m + 1) cap' (vs ++ [.slice ad n cp])) (h2 : W.grownBy W' (some as_))
    (hc : n ≤ cp ∧ cp ≤ maxLen) (hB : Bls w4 A ad (rwB R m)) :
    CL w4 W' A R n ab g' k (m + 1) cb cap' vb (vs ++ [.slice ad n cp]) blk cps := by
  obtain ⟨ha, cur, hcur⟩ := h.gs.blk
  have hsl := h.gb.lt
  have hl := h.gs.len
  refine ⟨h.gb.keep1 (h2.block _ hsl fun e => h.ne (by injection e)), h1, ?_, h.br.other hcur h2, fun i hi => ?_, below_by h.bl h.sz h2 ha, h.sz⟩
  · rcases h0 with rfl | h0
    · exact h.ne
    · omega
  · by_cases e : i = m
    · subst e
      exact ⟨ad, cp, by rw [List.getElem?_append_right (by omega), hl]; simp, hc, hB⟩
    · obtain ⟨ad', cp', k1, k2, k3⟩ := h.sm i (by omega)
      exact ⟨ad', cp', by rw [List.getElem?_append_left (by omega)]; exact k1, k2, k3⟩
end
/-- A table without its last station. -/
def cutT (R : List (List Bool)) (n : Nat) : List (List Bool) := (List.range n).map fun i => (rwB R i).take n
theorem cutT_len (R : List (List Bool)) (n : Nat) : (cutT R n).length = n := by simp [cutT]
theorem cutT_row {R : List (List Bool)} {n i : Nat} (h : i < n) : rwB (cutT R n) i = (rwB R i).take n := by simp [rwB, cutT, h]
theorem cutT_cf {R : List (List Bool)} {n i j : Nat} (hi : i < n) (hj : j < n) : cf (cutT R n) i j = cf R i j := by
  unfold cf
  rw [cutT_row hi]
  unfold bt
  rw [List.getD_eq_getElem?_getD, List.getElem?_take_of_lt hj, ← List.getD_eq_getElem?_getD]
theorem cutT_ok {R : List (List Bool)} {n : Nat} (h : TbOk R) (hn : n ≤ R.length) : TbOk (cutT R n) := by
  refine ⟨by rw [cutT_len]; have := h.1; omega, fun i hi => ?_, fun i hi => ?_⟩
  · rw [cutT_len] at hi
    rw [cutT_row hi, cutT_len, List.length_take, h.2.1 i (by omega)]; omega
  · rw [cutT_len] at hi
    refine ⟨by rw [cutT_cf hi hi]; exact (h.2.2 i (by omega)).1, fun j hj => ?_⟩
    rw [cutT_cf hi (by omega), cutT_cf (by omega) hi]
    exact h.sym i j (by omega) (by omega)
theorem sm_tbl {w4 W : World} {A base n cap : Nat} {a : Option Addr} {R : List (List Bool)} {vs : List Value} (hg : GVb W base a n cap vs) (hs : ∀ i, i < n → ∃ ad cp, vs[i]? = some (.slice ad n cp) ∧ (n ≤ cp ∧ cp ≤ maxLen) ∧ Bls w4 A ad (rwB R i)) (hb : Below A w4 W) (hA : A ≤ W.heap.size) (hr : ∀ i, i < n → n ≤ (rwB R i).length) : TbL W W.heap.size a (cutT R n) := fun hne => by
  have hp : 0 < n := by rw [← cutT_len R n]; exact List.length_pos_iff.2 hne
  obtain ⟨g, cur, rfl, _, hh, hc⟩ := hg.at_ hp
  refine ⟨g, 0, rfl, (Array.getElem?_eq_some_iff.1 hh).1, fun i hi => ?_⟩
  rw [cutT_len] at hi
  obtain ⟨ad, cp, h1, h2, h3⟩ := hs i hi
  have hl : ((rwB R i).take n).length = n := by rw [List.length_take]; have := hr i hi; omega
  rw [cutT_row hi, hl]
  refine ⟨ad, cp, by rw [Nat.zero_add]; exact hc i _ hi h1, h2.1, h2.2, fun _ => ?_⟩
  obtain ⟨b, off, e, hbA, hcc⟩ := h3 (by intro e; have := hr i hi; rw [e] at this; simp at this; omega)
  refine ⟨b, off, e, Nat.lt_of_lt_of_le hbA hA, fun j hj => ?_⟩
  rw [hl] at hj
  rw [hb.cell (p := ⟨b, off + j, none⟩) hbA, hcc j (by have := hr i hi; omega)]
  unfold bt
  rw [List.getD_eq_getElem?_getD (l := (rwB R i).take n), List.getElem?_take_of_lt hj, ← List.getD_eq_getElem?_getD]
/-- A table with a station in conflict with itself. -/
theorem tbB_self {R : List (List Bool)} (h0 : 0 < R.length) (h : cf R 0 0 = true) : tbB R = false := tbB_no fun h2 => by have := (h2.2.2 0 h0).1; rw [h] at this; cases this
theorem set_self {R : List (List Bool)} (h0 : 0 < R.length) (h1 : 0 < (rwB R 0).length) : cf (R.set 0 ((rwB R 0).set 0 true)) 0 0 = true := by
  have er : rwB (R.set 0 ((rwB R 0).set 0 true)) 0 = (rwB R 0).set 0 true := by simp [rwB, h0]
  unfold cf
  rw [er]; simp [bt, h1]
set_option maxRecDepth 100000 in
set_option maxHeartbeats 8000000 in
theorem walkConflictsValid (a : Option Addr) (c : Nat) (ds : List Int) (w : World) (hx : Ints .u8 w w.heap.size a ds) (hw : ∀ n ∈ ds, (Lit.int .u8 n).wf = true) (hc : ds.length ≤ c) (hcm : c ≤ maxLen) :
    Calls Try.prog 3 #[.slice a ds.length c] w fun e w' => e = .returned (.bool true) ∧ Below w.heap.size w w' := by
  have hb := isByte_of_wf hw
  clear hw
  by_cases hl : ds.length ≤ 1048576
  · have hl' : ¬ (1048576 : Int) < (ds.length : Int) := by omega
    go_enter Try.func3, Try.ntmps3
    go_wp2_with fail
    refine (drawConflictsValid_any a c ds w hx hb hc hcm).mono ?_
    rintro e w1 ⟨at_, ct, R, rfl, h9, ht, b1⟩
    have H9 := Lib.hid h9
    have T1 := Lib.hid ht
    have B1 := Lib.hid b1
    clear hx hb hc hcm h9 ht b1 hl hl'
    cases htb : tbB R
    · go_wp2_with fail
      refine (conflictsValid_is at_ ct R false w1 T1.out htb).mono ?_
      rintro e w2 ⟨rfl, b2⟩
      have T2 := Lib.hid (T1.out.next b2)
      have B2 := Lib.hid (Below.next B1.out (Nat.le_refl _) b2)
      clear b2 T1 B1
      have HC := Lib.hid (specConflictsValid_is at_ ct w2.heap.size R false w2 T2.out (rowCap H9.out.1) htb)
      clear htb
      go_wp2_with (first
        | (go_at_call 12; (with_reducible refine HC.out.mono ?_); rintro e w3 ⟨rfl, n3, rfl⟩)
        | (go_at_call 13; (with_reducible refine (alive_any _).mono ?_); rintro e w4 ⟨rfl, b4⟩
           have B4 := Lib.hid (Below.next (below_drewN B2.out n3) (Nat.le_refl _) b4)
           clear b4))
      go_ret
      exact ⟨rfl, B4.out⟩
    · go_wp2_with fail
      refine (conflictsValid_is at_ ct R true w1 T1.out htb).mono ?_
      rintro e w2 ⟨rfl, b2⟩
      have T2 := Lib.hid (T1.out.next b2)
      have B2 := Lib.hid (Below.next B1.out (Nat.le_refl _) b2)
      clear b2 T1 B1
      have HC := Lib.hid (specConflictsValid_is at_ ct w2.heap.size R true w2 T2.out (rowCap H9.out.1) htb)
      have HO := Lib.hid (tbB_ok htb)
      have h10 : R.length ≤ 9 := H9.out.1
      clear htb
      by_cases h0 : R.length = 0
      · have z0 : ((R.length : Int) == 0) = true := by rw [beq_iff_eq]; omega
        clear h0
        go_wp2_with (first
          | (go_at_call 12; (with_reducible refine HC.out.mono ?_); rintro e w3 ⟨rfl, n3, rfl⟩)
          | (go_at_call 13; (with_reducible refine (alive_any _).mono ?_); rintro e w4 ⟨rfl, b4⟩
             have B4 := Lib.hid (Below.next (below_drewN B2.out n3) (Nat.le_refl _) b4)
             clear b4))
        go_ret
        exact ⟨rfl, B4.out⟩
      · have z0 : ((R.length : Int) == 0) = false := by rw [beq_eq_false_iff_ne]; omega
        obtain ⟨n, hn⟩ : ∃ n, R.length = n + 1 := ⟨R.length - 1, by omega⟩
        have q1 : IntKind.i64.wrap ((R.length : Int) - 1) = (n : Int) := by rw [wrapW (by omega)]; omega
        have q1' : wrap64 ((R.length : Int) - 1) = (n : Int) := by rw [wrapW' (by omega)]; omega
        have HN := Lib.hid hn
        have hn9 : n ≤ 8 := by omega
        clear hn h0
        go_wp2_with fail
        refine HC.out.mono ?_
        rintro e w3 ⟨rfl, n3, hw3⟩
        have T3 := Lib.hid (show TbL w3 w3.heap.size at_ R by rw [hw3]; exact T2.out.next (below_drewN (Below.refl _ _) n3))
        have B3 := Lib.hid (show Below w.heap.size w w3 by rw [hw3]; exact below_drewN B2.out n3)
        clear T2 B2 HC hw3
        obtain ⟨b, off, rfl, hbB, hrows⟩ := T3.out (by intro e; have := HN.out; rw [e] at this; simp at this)
        have HbB := Lib.hid hbB
        have HRo := Lib.hid hrows
        clear hbB hrows
        have C0 : Hid (CL w3 ((w3.alloc (.cells #[] 27)).alloc (.cells #[] 27)) w3.heap.size R n (w3.heap.size + 1) w3.heap.size 0 0 0 0 [] [] (fun _ => 0) (fun _ => 0)) := by
          have h1 := GVb.lit0 (w3.alloc (.cells #[] 27)) w3.heap.size (by simp)
          rw [show (w3.alloc (.cells #[] 27)).heap.size = w3.heap.size + 1 by simp] at h1
          exact ⟨h1, (GVb.lit0 w3 w3.heap.size (Nat.le_refl _)).next (alloc_belowX _ _), by omega, BdR.start _ _ _, fun i hi => absurd hi (by omega), ((Below.refl _ _).alloc (Nat.le_refl _) _).alloc (by simp) _, Nat.le_refl _⟩
        go_wp2
        clear z0 q1 q1'
        generalize (w3.alloc (.cells #[] 27)).alloc (.cells #[] 27) = W0 at *
        go_loopw [6, 7, 8] (fun s b i wr => ∃ (k m ab as_ cb cs : Nat) (vb vs : List Value) (blk cps : Nat → Nat), k ≤ R.length ∧ m = min k n ∧ i = .int .i64 (k : Int) ∧ b = .slice (some ⟨ab, 0, none⟩) k cb ∧ s = .slice (some ⟨as_, 0, none⟩) m cs ∧ CL w3 wr w3.heap.size R n ab as_ k m cb cs vb vs blk cps) (fun _ _ i _ => R.length - (intOf i).toNat)
        case atStart => exact ⟨0, 0, _, _, 0, 0, [], [], _, _, Nat.zero_le _, by simp, rfl, rfl, rfl, C0.out⟩
        case round =>
          obtain ⟨k, m, ab, as_, cb, cs, vb, vs, blk, cps, hk, hm, rfl, rfl, rfl, hcl⟩ := hrel
          have HM := Lib.hid hm
          have HL := Lib.hid hcl
          have hsz := hcl.bl.size
          clear hm hcl C0
          by_cases hlt : k < R.length
          · obtain ⟨ad, cp, hrow3, hcp, hcm, hbl⟩ := HRo.out k hlt
            have hlen := HO.out.2.1 k hlt
            rw [hlen] at hrow3 hcp
            obtain ⟨b3, off3, rfl, hb3, _⟩ := hbl.at_ (i := 0) (by omega)
            have hrow : wr.cell? ⟨b, off + k, none⟩ = some (.slice (some ⟨b3, off3, none⟩) R.length cp) := (HL.out.bl.cell (p := ⟨b, off + k, none⟩) HbB.out).trans hrow3
            have A1 := Lib.hid (alloc_belowX wr (.cells #[] 4))
            have hrowA : (wr.alloc (.cells #[] 4)).cell? ⟨b, off + k, none⟩ = some (.slice (some ⟨b3, off3, none⟩) R.length cp) := (A1.out.cell (p := ⟨b, off + k, none⟩) (Nat.lt_of_lt_of_le HbB.out hsz)).trans hrow
            have HBl := Lib.hid (hbl.below (HL.out.bl.trans (A1.out.mono hsz)))
            have HB3 := Lib.hid hbl
            have HR3 := Lib.hid hrow3
            have HLen := Lib.hid hlen
            have hncp : n ≤ cp := by have := HN.out; omega
            have hcp2 := hcp
            clear hbl hlen hrow3
            by_cases hkn : k < n
            · go_wp2_with (first
                | (at_builtin; refine wpList_copyB (.tmp 40) (.tmp 44) wr.heap.size ⟨b3, off3, none⟩ R.length cp w3.heap.size (rwB R k) rfl rfl rfl rfl (GrowB.lit0 wr wr.heap.size (Nat.le_refl _)) HBl.out HLen.out (by omega) (by omega) (by simp) ?_
                   intro a5 cap5 w5 h5 b5
                   obtain ⟨gr, f, rfl, hgr, hc5, hm5, hri, hfe⟩ := h5.row (by omega)
                   have B5 := Lib.hid (A1.out.trans b5)
                   have C6 := Lib.hid ((HL.out.next B5.out).next (alloc_belowX w5 (.cells #[.slice (some ⟨gr, 0, none⟩) R.length cap5] 27)))
                   have R6 := Lib.hid (hri.of_block (Below.heap_alloc w5 (.cells #[.slice (some ⟨gr, 0, none⟩) R.length cap5] 27) gr hri.lt))
                   have HG := Lib.hid (And.intro hgr (And.intro (And.intro hc5 hm5) hfe))
                   have hs5 : wr.heap.size ≤ w5.heap.size := B5.out.size
                   clear h5 b5 hri hgr hfe hc5 hm5)
                | (at_builtin; refine wpList_appTwoVb (.tmp 39) (.tmp 46) w3.heap.size ab k cb vb ⟨w5.heap.size, 0, none⟩ (some ⟨gr, 0, none⟩) R.length cap5 rfl rfl rfl rfl C6.out.gb (by simp) (by omega) (by simp; omega) ?_
                   intro g7 cap7 w7 h0 h1 h2
                   have C7 := Lib.hid (C6.out.bad h0 (by rw [HLen.out]; exact h1) h2 (Nat.le_trans hsz HG.out.1) (by rw [HLen.out]; exact HG.out.2.1) R6.out (by rw [HLen.out]; exact HG.out.2.2) (fun i hi => Nat.lt_of_lt_of_le (HL.out.br.lt hi) HG.out.1))
                   have C8 := Lib.hid (C7.out.next (alloc_belowX w7 (.cells #[.slice (some ⟨b3, off3, none⟩) n cp] 27)))
                   have hrow7 : w7.cell? ⟨b, off + k, none⟩ = some (.slice (some ⟨b3, off3, none⟩) R.length cp) := (C7.out.bl.cell (p := ⟨b, off + k, none⟩) HbB.out).trans HR3.out
                   have hs7 := C7.out.bl.size
                   clear h0 h1 h2)
                | (at_builtin; refine wpList_appTwoVb (.tmp 51) (.tmp 58) w3.heap.size as_ m cs vs ⟨w7.heap.size, 0, none⟩ (some ⟨b3, off3, none⟩) n cp rfl rfl rfl rfl C8.out.gs (by simp) (by have := HM.out; omega) (by simp; omega) ?_
                   intro g9 cap9 w9 h0 h1 h2
                   have C9 := Lib.hid (C8.out.small h0 h1 h2 ⟨hncp, hcm⟩ (by rw [show m = k by have := HM.out; omega]; exact HB3.out))
                   clear h0 h1 h2))
              go_roundw
              case rel => exact ⟨k + 1, m + 1, g7, g9, cap7, cap9, _, _, _, _, by omega, by have := HM.out; omega, by go_num, rfl, rfl, C9.out⟩
              case measure => simp [intOf]; omega
            · have hkn' : ¬ (k : Int) < (n : Int) := by omega
              go_wp2_with (first
                | (at_builtin; refine wpList_copyB (.tmp 40) (.tmp 44) wr.heap.size ⟨b3, off3, none⟩ R.length cp w3.heap.size (rwB R k) rfl rfl rfl rfl (GrowB.lit0 wr wr.heap.size (Nat.le_refl _)) HBl.out HLen.out (by omega) (by omega) (by simp) ?_
                   intro a5 cap5 w5 h5 b5
                   obtain ⟨gr, f, rfl, hgr, hc5, hm5, hri, hfe⟩ := h5.row (by omega)
                   have B5 := Lib.hid (A1.out.trans b5)
                   have C6 := Lib.hid ((HL.out.next B5.out).next (alloc_belowX w5 (.cells #[.slice (some ⟨gr, 0, none⟩) R.length cap5] 27)))
                   have R6 := Lib.hid (hri.of_block (Below.heap_alloc w5 (.cells #[.slice (some ⟨gr, 0, none⟩) R.length cap5] 27) gr hri.lt))
                   have HG := Lib.hid (And.intro hgr (And.intro (And.intro hc5 hm5) hfe))
                   have hs5 : wr.heap.size ≤ w5.heap.size := B5.out.size
                   clear h5 b5 hri hgr hfe hc5 hm5)
                | (at_builtin; refine wpList_appTwoVb (.tmp 39) (.tmp 46) w3.heap.size ab k cb vb ⟨w5.heap.size, 0, none⟩ (some ⟨gr, 0, none⟩) R.length cap5 rfl rfl rfl rfl C6.out.gb (by simp) (by omega) (by simp; omega) ?_
                   intro g7 cap7 w7 h0 h1 h2
                   have C7 := Lib.hid (C6.out.bad h0 (by rw [HLen.out]; exact h1) h2 (Nat.le_trans hsz HG.out.1) (by rw [HLen.out]; exact HG.out.2.1) R6.out (by rw [HLen.out]; exact HG.out.2.2) (fun i hi => Nat.lt_of_lt_of_le (HL.out.br.lt hi) HG.out.1))
                   clear h0 h1 h2))
              go_roundw
              case rel => exact ⟨k + 1, m, g7, as_, cap7, cs, _, _, _, _, by omega, by have := HM.out; omega, by go_num, rfl, rfl, C7.out⟩
              case measure => simp [intOf]; omega
          · obtain rfl : R.length = k := by omega
            obtain rfl : m = n := by have := HM.out; have := HN.out; omega
            have h0R : 0 < R.length := by have := HN.out; omega
            have hlen := HO.out.2.1 0 h0R
            obtain ⟨ga, cur, e, _, _, hcc⟩ := HL.out.gb.at_ h0R
            injection e with e
            injection e with e
            subst e
            obtain ⟨k1, k2, k3, f, k4, k5⟩ := HL.out.br.at_ 0 h0R
            have c0 := hcc 0 _ h0R k1
            rw [hlen] at c0
            have d0 := k4.cell (i := 0) (by omega)
            have f0 := k4.frozen 0
            have S5 := Lib.hid (HL.out.br.set (v := true) h0R (j := 0) (by omega))
            have hgs := Lib.grownBy_setCell wr (blk 0) 0 (.bool true)
            obtain ⟨cc, hcb, _⟩ := id k4
            have G5 := Lib.hid (HL.out.gb.typed hgs hcb (by decide))
            have G6 := Lib.hid (HL.out.gs.typed hgs hcb (by decide))
            have B5 := Lib.hid (below_by HL.out.bl HL.out.sz hgs k3)
            have HSm := Lib.hid HL.out.sm
            have HTb : Hid (tbB (R.set 0 ((rwB R 0).set 0 true)) = false) := tbB_self (by rw [List.length_set]; exact h0R) (set_self h0R (by omega))
            have HLs := Lib.hid (show (R.set 0 ((rwB R 0).set 0 true)).length = R.length from List.length_set)
            have hR0 : (0 : Int) < (R.length : Int) := by omega
            clear hgs hcb hcc k1 k2 k3 k4 k5 hlen HL
            go_upto_region 19 with (fail)
            clear c0 d0 f0
            generalize wr.setCell ⟨blk 0, 0, none⟩ (.bool true) = w5 at *
            have TS := Lib.hid (sm_tbl G6.out HSm.out B5.out (Nat.le_trans (Nat.le_refl _) B5.out.size) (fun i hi => by rw [HO.out.2.1 i (by have := HN.out; omega)]; have := HN.out; omega))
            have TB := Lib.hid (S5.out.tbl G5.out HLs.out.symm)
            have HV1 := Lib.hid (conflictsValid_is (some ⟨as_, 0, none⟩) cs (cutT R m) true w5 TS.out (tbB_yes (cutT_ok HO.out (by have := HN.out; omega))))
            rw [cutT_len] at HV1
            have HV2 := Lib.hid (fun W (h : TbL W W.heap.size (some ⟨ab, 0, none⟩) (R.set 0 ((rwB R 0).set 0 true))) => conflictsValid_is (some ⟨ab, 0, none⟩) cb (R.set 0 ((rwB R 0).set 0 true)) false W h HTb.out)
            rw [HLs.out] at HV2
            go_wp2_with (first
              | (go_at_call 11; (with_reducible refine HV1.out.mono ?_); rintro e w6 ⟨rfl, b6⟩
                 have HV3 := Lib.hid (HV2.out w6 (TB.out.next b6))
                 have B6 := Lib.hid (b6)
                 clear b6)
              | (go_at_call 11; (with_reducible refine HV3.out.mono ?_); rintro e w7 ⟨rfl, b7⟩
                 have B7 := Lib.hid (B6.out.trans (b7.mono B6.out.size))
                 clear b7))
            go_ret
            exact ⟨rfl, B3.out.trans ((B5.out.mono (Nat.le_refl _) |>.trans (B7.out.mono B5.out.size)).mono B3.out.size)⟩
  · have hl' : (1048576 : Int) < (ds.length : Int) := by omega
    go_enter Try.func3, Try.ntmps3
    go_wp2
    go_ret
    exact ⟨rfl, Below.refl _ _⟩
end Go.Proofs.Ytibgpgifdjefnaa
