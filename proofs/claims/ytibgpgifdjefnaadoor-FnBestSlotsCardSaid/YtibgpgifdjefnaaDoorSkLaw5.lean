/-
  The law of complete tables, walked: it returns true for every list of bytes. Conditions: bytes that can be read; the table of package math/bits lies in its variable.
-/
import Derived.Test.YtibgpgifdjefnaaDoorSkLaw1
import Derived.Test.YtibgpgifdjefnaaDoorSkRows
import Derived.Test.YtibgpgifdjefnaaDoorSk7
import Derived.Test.YtibgpgifdjefnaaDoorSk9
namespace Go.Proofs.YtibgpgifdjefnaaDoor
open Go.RowKit

/-- A table in which any two stations are in conflict. -/
def fullRow (i k : Nat) : List Bool := (List.range k).map fun j => decide (j ≠ i)
def fullT (n : Nat) : List (List Bool) := (List.range n).map fun i => fullRow i n
theorem fullRow_len (i k : Nat) : (fullRow i k).length = k := by simp [fullRow]
theorem fullRow_app (i k : Nat) : fullRow i k ++ [decide (k ≠ i)] = fullRow i (k + 1) := by simp [fullRow, List.range_succ]
theorem fullRow_bt {i k j : Nat} (h : j < k) : bt (fullRow i k) j = decide (j ≠ i) := by simp [bt, fullRow, h]
theorem fullT_len (n : Nat) : (fullT n).length = n := by simp [fullT]
theorem fullT_row {n i : Nat} (h : i < n) : rwB (fullT n) i = fullRow i n := by simp [rwB, fullT, h]
theorem fullT_cf {n i j : Nat} (hi : i < n) (hj : j < n) : cf (fullT n) i j = decide (j ≠ i) := by
  unfold cf
  rw [fullT_row hi, fullRow_bt hj]
theorem fullT_ok {n : Nat} (h : n ≤ 7) : TbOk (fullT n) := by
  refine ⟨by rw [fullT_len]; omega, fun i hi => ?_, fun i hi => ?_⟩
  · rw [fullT_len] at hi
    rw [fullT_row hi, fullRow_len, fullT_len]
  · rw [fullT_len] at hi
    refine ⟨by rw [fullT_cf hi hi]; simp, fun j hj => ?_⟩
    rw [fullT_cf hi (by omega), fullT_cf (by omega) hi]
    simp [eq_comm]
theorem nl_range {s : List Nat} {n : Nat} (hl : s.length = n) (h : ∀ k, k < n → nl s k = k) : s = List.range n := by
  refine List.ext_getElem (by simp [hl]) fun i h1 h2 => ?_
  have := h i (by omega)
  simp [nl, h1] at this
  simp [this]
theorem fullT_all {n : Nat} : ∀ i j, i < n → j < i → cf (fullT n) i j = true := fun i j hi hj => by
  rw [fullT_cf hi (by omega)]; simp; omega
theorem fullT_gr {n : Nat} (h : n ≤ 7) : grL (fullT n) = iL (List.range n) := by
  rw [grL_yes (tbB_yes (fullT_ok h)), fullT_len]
  congr 1
  exact nl_range (gr_len _ _) (all_slots fullT_all (gr_proper _ _) (gr_rg _ _) (gr_len _ _))
theorem fullT_bs {n : Nat} (h : n ≤ 7) : bsL (fullT n) = iL (List.range n) := by
  rw [bsL_yes (by rw [tbB_yes (fullT_ok h), fullT_len]; simp; omega)]
  congr 1
  have h1 := bsN_some (fullT n)
  rw [fullT_len] at h1
  obtain ⟨s, M, h2, _, _, h3, _, h4, _⟩ := bs_facts (cf (fullT n)) n
  rw [h1] at h2
  injection h2 with h2
  subst h2
  exact nl_range h4 (all_slots fullT_all h3 (bs_rg h1) h4)
theorem fullT_gp {n : Nat} (h : n ≤ 7) : gpO (fullT n) = (n : Int) := by
  rw [gpO_yes (tbB_yes (fullT_ok h))]
  have h1 := gpN_is (fullT n)
  rw [fullT_len] at h1
  rw [h1.unique (all_facts fullT_all)]
theorem listC_intsN {L : List Int} {N : Nat} {w w' : World} {e : Ending} (h : ListPostC L w e w') (hN : L.length = N) : ∃ a c, e = .returned (.slice a N c) ∧ Ints .i64 w' w'.heap.size a L ∧ Below w.heap.size w w' := by
  subst hN
  exact listC_ints h
set_option maxRecDepth 10000 in
theorem sameN (a a' : Option Addr) (c c' B B' N : Nat) (L : List Int) (w : World) (hN : L.length = N) (hx : Ints .i64 w B a L) (hy : Ints .i64 w B' a' L) (hl : N ≤ 7) :
    Calls Tryd.prog 9 #[.slice a N c, .slice a' N c'] w fun e w' => e = .returned (.bool true) ∧ ∃ n, w' = w.drewN n := by
  subst hN
  have h := sameInts_any a a' c c' B B' L L w hx hy (by omega)
  rw [decide_eq_true rfl] at h
  exact h
set_option maxRecDepth 10000 in
theorem Grow.typed {w w' : World} {base n cap : Nat} {a : Option Addr} {xs : List Int} (h : Grow .i64 3 w base a n cap xs) (hk : ∀ (g : Nat) (c : Array Value), w.heap[g]? = some (.cells c 3 (0, 0)) → w'.heap[g]? = w.heap[g]?) : Grow .i64 3 w' base a n cap xs := by
  refine ⟨h.1, ?_⟩
  rcases h.2 with h0 | ⟨g, c2, cur, e, h1, hh, rest⟩
  · exact .inl h0
  · exact .inr ⟨g, c2, cur, e, h1, (hk g _ hh).trans hh, rest⟩
set_option maxRecDepth 10000 in
theorem App1.leaves {base : Nat} {A : Option Addr} {n cap : Nat} {xs : List Int} {v : Int} {w w' : World} {a' : Option Addr} {cap' : Nat} (h : App1 base A n xs v w a' cap' w') (hg : Grow .i64 3 w base A n cap xs) {j : Nat} {c : Array Value} {t : TypeId} {fr : Nat × Nat} (hj : w.heap[j]? = some (.cells c t fr)) (ht : t ≠ 3) : w'.heap[j]? = w.heap[j]? := by
  refine h.2.2.1 j (Array.getElem?_eq_some_iff.1 hj).1 fun e => ?_
  rcases hg.2 with ⟨h0, _⟩ | ⟨g, c2, cur, h0, h1, hh, rest⟩
  · rw [e] at h0; injection h0 with h0; cases h0
  · rw [e] at h0
    injection h0 with h0
    injection h0 with h0
    injection h0 with h0
    subst h0
    rw [hh] at hj
    injection hj with hj
    injection hj with _ hj _
    exact ht hj.symm
/-- The table and the order, as they grow. -/
structure FC (w0 W : World) (N k : Nat) (af : Option Addr) (cpf : Nat) (vs : List Value) (ao : Option Addr) (co : Nat) : Prop where
  gf : GVb W w0.heap.size af k cpf vs
  go : Grow .i64 3 W w0.heap.size ao k co (iL (List.range k))
  rows : ∀ i, i < k → ∃ b cp f, vs[i]? = some (.slice (some ⟨b, 0, none⟩) N cp) ∧ (N ≤ cp ∧ cp ≤ maxLen) ∧ W.rowIs b 4 cp f ∧ ∀ j, j < N → f j = .bool (decide (j ≠ i))
  bl : Below w0.heap.size w0 W
section
variable {w0 W W' : World} {N k cpf co : Nat} {af ao : Option Addr} {vs : List Value}
theorem FC.next (h : FC w0 W N k af cpf vs ao co) (hb : Below W.heap.size W W') : FC w0 W' N k af cpf vs ao co :=
  ⟨h.gf.next hb, h.go.below hb, fun i hi => by
    obtain ⟨b, cp, f, h1, h2, h3, h4⟩ := h.rows i hi
    exact ⟨b, cp, f, h1, h2, h3.of_block (hb.block _ h3.lt), h4⟩, h.bl.trans (hb.mono h.bl.size)⟩
/-- The middle of a round: the table has one row more. -/
structure FM (w0 W : World) (N k : Nat) (af : Option Addr) (cpf : Nat) (vs : List Value) (ao : Option Addr) (co : Nat) : Prop where
  gf : GVb W w0.heap.size af (k + 1) cpf vs
  go : Grow .i64 3 W w0.heap.size ao k co (iL (List.range k))
  rows : ∀ i, i < k + 1 → ∃ b cp f, vs[i]? = some (.slice (some ⟨b, 0, none⟩) N cp) ∧ (N ≤ cp ∧ cp ≤ maxLen) ∧ W.rowIs b 4 cp f ∧ ∀ j, j < N → f j = .bool (decide (j ≠ i))
  bl : Below w0.heap.size w0 W
theorem FM.next (h : FM w0 W N k af cpf vs ao co) (hb : Below W.heap.size W W') : FM w0 W' N k af cpf vs ao co :=
  ⟨h.gf.next hb, h.go.below hb, fun i hi => by
    obtain ⟨b, cp, f, h1, h2, h3, h4⟩ := h.rows i hi
    exact ⟨b, cp, f, h1, h2, h3.of_block (hb.block _ h3.lt), h4⟩, h.bl.trans (hb.mono h.bl.size)⟩
set_option maxRecDepth 10000 in
theorem FC.row {a' : Option Addr} {cap' b cp : Nat} {f : Nat → Value} (h : FC w0 W N k af cpf vs ao co) (h1 : GVb W' w0.heap.size a' (k + 1) cap' (vs ++ [.slice (some ⟨b, 0, none⟩) N cp])) (h2 : W.grownBy W' (Value.ownBlock (.slice af k cpf)))
    (hc : N ≤ cp ∧ cp ≤ maxLen) (hf : W.rowIs b 4 cp f) (hfe : ∀ j, j < N → f j = .bool (decide (j ≠ k))) : FM w0 W' N k a' cap' (vs ++ [.slice (some ⟨b, 0, none⟩) N cp]) ao co := by
  have hl := h.gf.len
  have keep : ∀ (b cp : Nat) (f : Nat → Value), W.rowIs b 4 cp f → W'.rowIs b 4 cp f := fun b cp f hr => by
    obtain ⟨c, hc, _⟩ := id hr
    exact hr.of_block (h.gf.leaves h2 hc (by decide))
  refine ⟨h1, h.go.typed fun g c hg => h.gf.leaves h2 hg (by decide), fun i hi => ?_, h.bl.trans (h.gf.keepsBelow h2 h.bl.size)⟩
  by_cases e : i = k
  · subst e
    exact ⟨b, cp, f, by rw [List.getElem?_append_right (by omega), hl]; simp, hc, keep _ _ _ hf, hfe⟩
  · obtain ⟨b', cp', f', k1, k2, k3, k4⟩ := h.rows i (by omega)
    exact ⟨b', cp', f', by rw [List.getElem?_append_left (by omega)]; exact k1, k2, keep _ _ _ k3, k4⟩
set_option maxRecDepth 10000 in
theorem FM.order {a' : Option Addr} {cap' : Nat} (h : FM w0 W N k af cpf vs ao co) (h1 : App1 w0.heap.size ao k (iL (List.range k)) (k : Int) W a' cap' W') : FC w0 W' N (k + 1) af cpf vs a' cap' := by
  have hl : ∀ {j : Nat} {c : Array Value} {t : TypeId} {fr : Nat × Nat}, W.heap[j]? = some (.cells c t fr) → t ≠ 3 → W'.heap[j]? = W.heap[j]? := fun hj ht => h1.leaves h.go hj ht
  refine ⟨h.gf.keep fun g c _ hg => hl hg (by decide), ?_, fun i hi => ?_, h.bl.trans h1.2.1⟩
  · have := h1.1
    rw [show iL (List.range (k + 1)) = iL (List.range k) ++ [(k : Int)] by rw [List.range_succ, iL_app]]
    exact this
  · obtain ⟨b', cp', f', k1, k2, k3, k4⟩ := h.rows i hi
    obtain ⟨c, hc, _⟩ := id k3
    exact ⟨b', cp', f', k1, k2, k3.of_block (hl hc (by decide)), k4⟩
theorem FC.tbl (h : FC w0 W N N af cpf vs ao co) : TbL W W.heap.size af (fullT N) := fun hne => by
  have hp : 0 < N := by rw [← fullT_len N]; exact List.length_pos_iff.2 hne
  obtain ⟨g, cur, rfl, _, hh, hc⟩ := h.gf.at_ hp
  refine ⟨g, 0, rfl, (Array.getElem?_eq_some_iff.1 hh).1, fun i hi => ?_⟩
  rw [fullT_len] at hi
  obtain ⟨b, cp, f, h1, h2, h4, h5⟩ := h.rows i hi
  rw [fullT_row hi, fullRow_len]
  refine ⟨_, cp, by rw [Nat.zero_add]; exact hc i _ hi h1, h2.1, h2.2, fun _ => ⟨b, 0, rfl, h4.lt, fun j hj => ?_⟩⟩
  rw [fullRow_len] at hj
  rw [Nat.zero_add, h4.cell (by omega), h5 j hj, fullRow_bt hj]
end
set_option maxRecDepth 100000 in
set_option maxHeartbeats 8000000 in
theorem walkSlotsComplete (a : Option Addr) (c : Nat) (ds : List Int) (w : World) (hx : Ints .u8 w w.heap.size a ds) (hw : ∀ n ∈ ds, (Lit.int .u8 n).wf = true) (hc : ds.length ≤ c) (hcm : c ≤ maxLen) (hT : DbTab w) :
    Calls Tryd.prog 5 #[.slice a ds.length c] w fun e w' => e = .returned (.bool true) ∧ Below w.heap.size w w' := by
  have hb := isByte_of_wf hw
  have D0 := Lib.hid hT
  clear hw hT
  by_cases hl : ds.length ≤ 1048576
  · have hl' : ¬ (1048576 : Int) < (ds.length : Int) := by omega
    go_enter Tryd.func5, Tryd.ntmps5
    go_wp2_with fail
    refine (drawBestSlots_any a c ds w hx hb hc hcm).mono ?_
    rintro e w1 ⟨at_, ct, R, rfl, h9, ht, b1⟩
    have B1 := Lib.hid b1
    obtain ⟨N, hN⟩ : ∃ N, N = min R.length 7 := ⟨_, rfl⟩
    have hN7 : N ≤ 7 := by omega
    have hmin : (if (7 : Int) < (R.length : Int) then 7 else (R.length : Int)) = (N : Int) := by split <;> omega
    clear hx hb hc hcm h9 ht b1 hl hl' hN
    have C0 : Hid (FC w1 ((w1.alloc (.cells #[] 29)).alloc (.cells #[] 3)) N 0 (some ⟨w1.heap.size, 0, none⟩) 0 [] (some ⟨w1.heap.size + 1, 0, none⟩) 0) := by
      have h1 := Grow.lit0 .i64 3 (w1.alloc (.cells #[] 29)) w1.heap.size (by simp)
      rw [show (w1.alloc (.cells #[] 29)).heap.size = w1.heap.size + 1 by simp] at h1
      exact ⟨(GVb.lit0 w1 w1.heap.size (Nat.le_refl _)).next (alloc_belowX _ _), h1, fun i hi => absurd hi (by omega), ((Below.refl _ _).alloc (Nat.le_refl _) _).alloc (by simp) _⟩
    go_wp2
    clear hmin
    generalize (w1.alloc (.cells #[] 29)).alloc (.cells #[] 3) = W0 at *
    go_loopw [5, 6, 7] (fun f o i wr => ∃ (k cpf co : Nat) (af ao : Option Addr) (vs : List Value), k ≤ N ∧ i = .int .i64 (k : Int) ∧ f = .slice af k cpf ∧ o = .slice ao k co ∧ FC w1 wr N k af cpf vs ao co) (fun _ _ i _ => N - (intOf i).toNat)
    case atStart => exact ⟨0, 0, 0, _, _, [], Nat.zero_le _, rfl, rfl, rfl, C0.out⟩
    case round =>
      obtain ⟨k, cpf, co, af, ao, vs, hk, rfl, rfl, rfl, hcl⟩ := hrel
      have HL := Lib.hid hcl
      have hsz := hcl.bl.size
      clear hcl C0
      by_cases hlt : k < N
      · obtain ⟨wi, rfl⟩ : ∃ wi, wi = wr := ⟨wr, rfl⟩
        have G0 := Lib.hid (GrowB.lit0 wi wi.heap.size (Nat.le_refl _))
        have A0 := Lib.hid (alloc_belowX wi (.cells #[] 4))
        go_wp2
        generalize wi.alloc (.cells #[] 4) = W1 at *
        go_loopw [8, 9] (fun r j wr => ∃ (k2 cap : Nat) (ar : Option Addr), k2 ≤ N ∧ j = .int .i64 (k2 : Int) ∧ r = .slice ar k2 cap ∧ GrowB wr wi.heap.size ar k2 cap (fullRow k k2) ∧ Below wi.heap.size wi wr) (fun _ j _ => N - (intOf j).toNat)
        case atStart => exact ⟨0, 0, _, Nat.zero_le _, rfl, rfl, G0.out, A0.out⟩
        case round =>
          obtain ⟨j, cap, ar, hj, rfl, rfl, hg, hbl⟩ := hrel
          have HG := Lib.hid hg
          have HB := Lib.hid hbl
          have hsz2 := hbl.size
          clear hg hbl G0 A0
          by_cases hjl : j < N
          · obtain ⟨v, hv⟩ : ∃ v, v = decide (j ≠ k) := ⟨_, rfl⟩
            have hv2 : ((j : Int) != (k : Int)) = v := by
              rw [hv, Bool.eq_iff_iff]; simp; omega
            have HE := Lib.hid hv
            clear hv
            go_wp2_with (at_builtin; refine wpList_appendB1 (.tmp 31) (.tmp 35) wi.heap.size ar j cap (fullRow k j) ⟨wr.heap.size, 0, none⟩ v rfl rfl rfl (by simp [Act.eval]) (HG.out.alloc _) (by simp) (by omega) (by simp; omega) ?_
                         intro a5 cap5 w5 h5 b5
                         have G5 := Lib.hid h5
                         have B5 := Lib.hid (((HB.out.trans ((alloc_belowX wr (.cells #[.bool v] 4)).mono hsz2))).trans b5)
                         clear h5 b5)
            clear hv2
            go_roundw
            case rel => exact ⟨j + 1, cap5, a5, by omega, by go_num, rfl, by rw [← fullRow_app, ← HE.out]; exact G5.out, B5.out⟩
            case measure => simp [intOf]; omega
          · obtain rfl : j = N := by omega
            obtain ⟨gr, f, rfl, hgr, hc5, hm5, hri, hfe⟩ := HG.out.row (by omega)
            have C6 := Lib.hid ((HL.out.next HB.out).next (alloc_belowX wr (.cells #[.slice (some ⟨gr, 0, none⟩) j cap] 29)))
            have R6 := Lib.hid (hri.of_block (Below.heap_alloc wr (.cells #[.slice (some ⟨gr, 0, none⟩) j cap] 29) gr hri.lt))
            have HF := Lib.hid (And.intro hc5 hm5)
            have HE := Lib.hid (fun i (hi : i < j) => (hfe i hi).trans (by rw [fullRow_bt hi] : _ = Value.bool (decide (i ≠ k))))
            clear hri hgr hfe hc5 hm5
            go_wp2_with (first
              | (at_builtin; refine wpList_appendVb (.tmp 37) (.tmp 39) w1.heap.size af k cpf vs ⟨wr.heap.size, 0, none⟩ (some ⟨gr, 0, none⟩) j cap rfl rfl rfl (by simp [Act.eval]) C6.out.gf (by simp) (by omega) (by simp; omega) ?_
                 intro a7 cap7 w7 h1 h2
                 have C7 := Lib.hid (C6.out.row h1 h2 HF.out R6.out HE.out)
                 have C8 := Lib.hid (C7.out.next (alloc_belowX w7 (.cells #[.int .i64 (k : Int)] 3)))
                 have hs7 := C7.out.bl.size
                 clear h1 h2)
              | (at_builtin; refine wpList_app1k (.tmp 41) (.tmp 43) w1.heap.size ao k co (iL (List.range k)) ⟨w7.heap.size, 0, none⟩ (k : Int) rfl rfl rfl (by simp [Act.eval]) C8.out.go (by simp) (by omega) (by simp; omega) ?_
                 intro a9 cap9 w9 h1
                 have C9 := Lib.hid (C8.out.order h1)
                 clear h1))
            go_roundw
            case rel => exact ⟨k + 1, cap7, cap9, a7, a9, _, by omega, by go_num, rfl, rfl, C9.out⟩
            case measure => simp [intOf]; omega
      · obtain rfl : k = N := by omega
        have T1 := Lib.hid HL.out.tbl
        have O1 := Lib.hid HL.out.go.ints
        have BB := Lib.hid (B1.out.trans (HL.out.bl.mono B1.out.size))
        have D1 := Lib.hid (D0.out.next BB.out)
        have HN := Lib.hid (show (iL (List.range k)).length = k by rw [iL_len]; simp)
        have HG := Lib.hid (fun W (h : TbL W W.heap.size af (fullT k)) => greedySlots_any af cpf (fullT k) W h)
        have HB := Lib.hid (fun W (h : TbL W W.heap.size af (fullT k)) => bestSlots_any af cpf (fullT k) W h)
        have HP := Lib.hid (fun W (h : TbL W W.heap.size af (fullT k)) (h2 : DbTab W) => groupSize_is af cpf (fullT k) W h h2)
        have HS := Lib.hid (fun W (h : TbL W W.heap.size af (fullT k)) => specGreedySlots_any af cpf (fullT k) W h (by rw [fullT_len]; unfold maxLen; omega))
        rw [fullT_len, fullT_gr hN7] at HG HS
        rw [fullT_len, fullT_bs hN7] at HB
        rw [fullT_len, fullT_gp hN7] at HP
        have zz : ((k : Int) == (k : Int)) = true := by simp
        have hk7 : k ≤ 7 := hN7
        clear HL
        generalize iL (List.range k) = L at *
        have U1 := Lib.hid (HG.out wr T1.out)
        go_wp2_with (first
          | (go_at_call 9; (with_reducible refine (sameN a8 ao c8 co w8.heap.size w8.heap.size k L w8 HN.out I8.out O8.out hk7).mono ?_); rintro e w9 ⟨rfl, n9, rfl⟩
             have B9 := Lib.hid (below_drewN B8.out n9))
          | (go_at_call 17; (with_reducible refine U7.out.mono ?_); intro e w8 h8
             obtain ⟨a8, c8, rfl, i8, b8⟩ := listC_intsN h8 HN.out
             have I8 := Lib.hid i8
             have O8 := Lib.hid (O6.out.upN (b7.trans (b8.mono b7.size)))
             have B8 := Lib.hid (Below.next (Below.next B6.out (Nat.le_refl _) b7) (Nat.le_refl _) b8)
             clear h8 i8 b8)
          | (go_at_call 14; (with_reducible refine U6.out.mono ?_); rintro e w7 ⟨rfl, b7⟩
             have U7 := Lib.hid (HS.out w7 (T6.out.next b7)))
          | (go_at_call 9; (with_reducible refine (sameN a5 ao c5 co w5.heap.size w5.heap.size k L w5 HN.out I5.out O5.out hk7).mono ?_); rintro e w6 ⟨rfl, n6, hw6⟩
             have B6 := Lib.hid (show Below w.heap.size w w6 by rw [hw6]; exact below_drewN B5.out n6)
             have T6 := Lib.hid (show TbL w6 w6.heap.size af (fullT k) by rw [hw6]; exact T5.out.next (below_drewN (Below.refl _ _) n6))
             have O6 := Lib.hid (show Ints .i64 w6 w6.heap.size ao L by rw [hw6]; exact O5.out.upN (below_drewN (Below.refl _ _) n6))
             have U6 := Lib.hid (HP.out w6 T6.out (D0.out.next B6.out))
             clear hw6)
          | (go_at_call 8; (with_reducible refine U4.out.mono ?_); intro e w5 h5
             obtain ⟨a5, c5, rfl, i5, b5⟩ := listC_intsN h5 HN.out
             have I5 := Lib.hid i5
             have O5 := Lib.hid (O4.out.upN b5)
             have T5 := Lib.hid (T4.out.next b5)
             have B5 := Lib.hid (Below.next B4.out (Nat.le_refl _) b5)
             clear h5 i5 b5)
          | (go_at_call 9; (with_reducible refine (sameN a3 ao c3 co w3.heap.size w3.heap.size k L w3 HN.out I3.out O3.out hk7).mono ?_); rintro e w4 ⟨rfl, n4, hw4⟩
             have B4 := Lib.hid (show Below w.heap.size w w4 by rw [hw4]; exact below_drewN B3.out n4)
             have T4 := Lib.hid (show TbL w4 w4.heap.size af (fullT k) by rw [hw4]; exact T3.out.next (below_drewN (Below.refl _ _) n4))
             have O4 := Lib.hid (show Ints .i64 w4 w4.heap.size ao L by rw [hw4]; exact O3.out.upN (below_drewN (Below.refl _ _) n4))
             have U4 := Lib.hid (HB.out w4 T4.out)
             clear hw4)
          | (go_at_call 12; (with_reducible refine U1.out.mono ?_); intro e w3 h3
             obtain ⟨a3, c3, rfl, i3, b3⟩ := listC_intsN h3 HN.out
             have I3 := Lib.hid i3
             have O3 := Lib.hid (O1.out.upN b3)
             have T3 := Lib.hid (T1.out.next b3)
             have B3 := Lib.hid (Below.next BB.out (Nat.le_refl _) b3)
             clear h3 i3 b3))
        go_ret
        exact ⟨rfl, B9.out⟩
  · have hl' : (1048576 : Int) < (ds.length : Int) := by omega
    go_enter Tryd.func5, Tryd.ntmps5
    go_wp2
    go_ret
    exact ⟨rfl, Below.refl _ _⟩
end Go.Proofs.YtibgpgifdjefnaaDoor
