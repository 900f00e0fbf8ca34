/-
  The law of best slots, walked: it returns true for every list of bytes. Conditions: bytes that can be read; the table of package math/bits lies in its variable.
-/
import Derived.Test.YtibgpgifdjefnaaDoorSkLaw3
import Derived.Test.YtibgpgifdjefnaaDoorSkLaw5
namespace Go.Proofs.YtibgpgifdjefnaaDoor
open Go.RowKit

theorem bs_all {g : Nat → Nat → Bool} {n : Nat} {s : List Nat} (h : bs g n = some s) (hn : n ≤ 7) : Proper g s ∧ s.length = n ∧ Below' (topN s n) s ∧ ∀ i, i < n → nl s i < 10 := by
  obtain ⟨s', M, e, _, hM, hp, hb, hl, _⟩ := bs_facts g n
  rw [h] at e
  obtain rfl := Option.some.inj e
  refine ⟨hp, hl, fun i hi => topN_ge (by omega), fun i hi => ?_⟩
  have := hb i (by omega)
  omega
theorem bsL_case (R : List (List Bool)) : bsL R = [] ∨ (tbB R = true ∧ R.length ≤ 7 ∧ bsL R = iL (bsN R) ∧ 0 < R.length) := by
  cases h : tbB R && decide (R.length ≤ 7)
  · exact .inl (bsL_no h)
  · have h1 := h
    simp only [Bool.and_eq_true, decide_eq_true_eq] at h1
    rcases Nat.eq_zero_or_pos R.length with h0 | h0
    · refine .inl ?_
      rw [bsL_yes h]
      have h2 := (bs_all (bsN_some R) h1.2).2.1
      rw [h0] at h2
      rw [List.eq_nil_of_length_eq_zero h2]; rfl
    · exact .inr ⟨h1.1, h1.2, bsL_yes h, h0⟩
/-- What the law asks of the best slots S, the greedy ones G, those of the table without its last station U. -/
structure BF (R : List (List Bool)) (n : Nat) (S G U : List Nat) : Prop where
  sl : S.length = n + 1
  gl : G.length = n + 1
  ul : U.length = n
  s10 : ∀ i, i < n + 1 → nl S i < 10
  g10 : ∀ i, i < n + 1 → nl G i < 10
  u10 : ∀ i, i < n → nl U i < 10
  sv : svB R (iL S) = true
  gp : gpN R ≤ topN S (n + 1)
  sg : topN S (n + 1) ≤ topN G (n + 1)
  us : topN U n ≤ topN S (n + 1)
theorem bf_all {R : List (List Bool)} {n : Nat} (hO : TbOk R) (h7 : R.length ≤ 7) (hn : R.length = n + 1) : bsL (cutT R n) = iL (bsN (cutT R n)) ∧ grL R = iL (gr (cf R) R.length) ∧ BF R n (bsN R) (gr (cf R) R.length) (bsN (cutT R n)) := by
  have hC := cutT_ok hO (n := n) (by omega)
  have h1 := bsN_some R
  have h2 := bsN_some (cutT R n)
  rw [cutT_len] at h2
  obtain ⟨p1, p2, p3, p4⟩ := bs_all h1 h7
  obtain ⟨q1, q2, q3, q4⟩ := bs_all h2 (by omega)
  refine ⟨bsL_yes (by rw [tbB_yes hC, cutT_len]; simp; omega), grL_yes (tbB_yes hO), by omega, by rw [gr_len]; omega, q2, fun i hi => p4 i (by omega), fun i hi => ?_, fun i hi => q4 i hi, ?_, ?_, ?_, ?_⟩
  · exact gr_b10 hO i (by rw [gr_len]; omega)
  · exact sv_of_proper hO p1 p2 fun i hi => p4 i (by omega)
  · rw [← hn]; exact gr_le_slots (gpN_is R) p1 p2 p3
  · rw [← hn]; exact (bs_top h1).1
  · rw [← hn]; exact bs_part h1 h2 (by omega) fun i j hi hj => cutT_cf hi (by omega)
/-- The smaller table as it grows. -/
structure SmT (w0 W : World) (R : List (List Bool)) (n k : Nat) (as_ : Option Addr) (cs : Nat) (vs : List Value) : Prop where
  gs : GVb W w0.heap.size as_ k cs vs
  sm : ∀ i, i < k → ∃ ad cp, vs[i]? = some (.slice ad n cp) ∧ (n ≤ cp ∧ cp ≤ maxLen) ∧ Bls w0 w0.heap.size ad (rwB R i)
  bl : Below w0.heap.size w0 W
section
variable {w0 W W' : World} {R : List (List Bool)} {n k cs : Nat} {as_ : Option Addr} {vs : List Value}
theorem SmT.next (h : SmT w0 W R n k as_ cs vs) (hb : Below W.heap.size W W') : SmT w0 W' R n k as_ cs vs := ⟨h.gs.next hb, h.sm, h.bl.trans (hb.mono h.bl.size)⟩
theorem SmT.row {a' ad : Option Addr} {cap' cp : Nat} (h : SmT w0 W R n k as_ cs vs) (h1 : GVb W' w0.heap.size a' (k + 1) cap' (vs ++ [.slice ad n cp])) (h2 : W.grownBy W' (Value.ownBlock (.slice as_ k cs))) (hc : n ≤ cp ∧ cp ≤ maxLen) (hB : Bls w0 w0.heap.size ad (rwB R k)) :
    SmT w0 W' R n (k + 1) a' cap' (vs ++ [.slice ad n cp]) := by
  have hl := h.gs.len
  refine ⟨h1, fun i hi => ?_, h.bl.trans (h.gs.keepsBelow h2 h.bl.size)⟩
  by_cases e : i = k
  · subst e
    exact ⟨ad, cp, by rw [List.getElem?_append_right (by omega), hl]; simp, hc, hB⟩
  · obtain ⟨ad', cp', k1, k2, k3⟩ := h.sm i (by omega)
    exact ⟨ad', cp', by rw [List.getElem?_append_left (by omega)]; exact k1, k2, k3⟩
end
set_option maxRecDepth 100000 in
set_option maxHeartbeats 8000000 in
theorem walkBestSlots (a : Option Addr) (c : Nat) (ds : List Int) (w : World) (hx : Ints .u8 w w.heap.size a ds) (hw : ∀ n ∈ ds, (Lit.int .u8 n).wf = true) (hc : ds.length ≤ c) (hcm : c ≤ maxLen) (hT : DbTab w) :
    Calls Tryd.prog 3 #[.slice a ds.length c] w fun e w' => e = .returned (.bool true) ∧ Below w.heap.size w w' := by
  have hb := isByte_of_wf hw
  have D0 := Lib.hid hT
  clear hw hT
  by_cases hl : ds.length ≤ 1048576
  · have hl' : ¬ (1048576 : Int) < (ds.length : Int) := by omega
    go_enter Tryd.func3, Tryd.ntmps3
    go_wp2_with fail
    refine (drawBestSlots_any a c ds w hx hb hc hcm).mono ?_
    rintro e w1 ⟨at_, ct, R, rfl, h9, ht, b1⟩
    have H9 := Lib.hid h9
    have T1 := Lib.hid ht
    have B1 := Lib.hid b1
    clear hx hb hc hcm h9 ht b1 hl hl'
    go_wp2_with fail
    refine (bestSlots_any at_ ct R w1 T1.out).mono ?_
    intro e w2 h2
    obtain ⟨a2, c2, rfl, i2, b2⟩ := listC_ints h2
    have I2 := Lib.hid i2
    have T2 := Lib.hid (T1.out.next b2)
    have B2 := Lib.hid (Below.next B1.out (Nat.le_refl _) b2)
    clear h2 i2 b2 T1 B1
    go_wp2_with fail
    refine (specBestSlots_any at_ ct R w2 T2.out (rowCap H9.out.1)).mono ?_
    intro e w3 h3
    obtain ⟨a3, c3, rfl, i3, b3⟩ := listC_ints h3
    have I3 := Lib.hid i3
    have I23 := Lib.hid (I2.out.upN b3)
    have T3 := Lib.hid (T2.out.next b3)
    have B3 := Lib.hid (Below.next B2.out (Nat.le_refl _) b3)
    clear h3 i3 b3 T2 B2 I2
    have hlen : (bsL R).length ≤ 10 := by
      rcases bsL_case R with h | ⟨h1, h2, h3, h4⟩
      · rw [h]; exact Nat.zero_le _
      · rw [h3, iL_len, (bs_all (bsN_some R) h2).2.1]; omega
    have HL := Lib.hid hlen
    clear hlen
    go_wp2_with fail
    refine (sameInts_any a2 a3 c2 c3 w3.heap.size w3.heap.size (bsL R) (bsL R) w3 I23.out I3.out (by have := HL.out; omega)).mono ?_
    rw [decide_eq_true rfl]
    rintro e w4 ⟨rfl, n4, rfl⟩
    have I4 := Lib.hid (I23.out.upN (below_drewN (Below.refl _ _) n4))
    have T4 := Lib.hid (T3.out.next (below_drewN (Below.refl _ _) n4))
    have B4 := Lib.hid (below_drewN B3.out n4)
    clear I3 I23 T3 B3 HL
    generalize w3.drewN n4 = w4 at *
    rcases bsL_case R with hgr | ⟨htb, h7, hgr, h0⟩
    · rw [hgr] at I4 ⊢
      go_wp2_with fail
      refine (alive_any w4).mono ?_
      rintro e w5 ⟨rfl, b5⟩
      have B5 := Lib.hid (Below.next B4.out (Nat.le_refl _) b5)
      clear b5
      go_wp2
      go_ret
      exact ⟨rfl, B5.out⟩
    · obtain ⟨n, hn⟩ : ∃ n, R.length = n + 1 := ⟨R.length - 1, by omega⟩
      have HO := Lib.hid (tbB_ok htb)
      obtain ⟨f1, f2, f3⟩ := bf_all (tbB_ok htb) h7 hn
      have HF1 := Lib.hid f1
      have HG := Lib.hid (greedySlots_any at_ ct R w4 T4.out)
      rw [f2] at HG
      have HP := Lib.hid (fun W (h : TbL W W.heap.size at_ R) (h2 : DbTab W) => groupSize_is at_ ct R W h h2)
      rw [gpO_yes htb] at HP
      rw [hgr] at I4 ⊢
      obtain ⟨S, hS⟩ : ∃ S, S = bsN R := ⟨_, rfl⟩
      obtain ⟨G, hG⟩ : ∃ G, G = gr (cf R) R.length := ⟨_, rfl⟩
      obtain ⟨U, hU⟩ : ∃ U, U = bsN (cutT R n) := ⟨_, rfl⟩
      rw [← hS] at I4 f3 ⊢
      rw [← hG] at HG f3
      rw [← hU] at HF1 f3
      have HB := Lib.hid f3
      have n6 : n ≤ 6 := by omega
      have eS : (iL S).length = n + 1 := by rw [iL_len]; exact f3.sl
      have eG : (iL G).length = n + 1 := by rw [iL_len]; exact f3.gl
      have HS := Lib.hid eS
      have HGl := Lib.hid eG
      have HN := Lib.hid hn
      have HV := Lib.hid (fun W (h : TbL W W.heap.size at_ R) (h2 : Ints .i64 W W.heap.size a2 (iL S)) => slotsValid_is at_ a2 ct c2 R (iL S) true W h h2 f3.sv)
      rw [hn] at HG HP HV ⊢
      rw [eS] at HV ⊢
      have z0 : (((n + 1 : Nat) : Int) == 0) = false := by rw [beq_eq_false_iff_ne]; omega
      clear hS hG hU htb h7 hgr h0 f1 f2 f3 eS eG hn
      go_wp2_with (go_at_call 12; (with_reducible refine HG.out.mono ?_); intro e w5 h5
                   obtain ⟨a5, c5, rfl, i5, b5⟩ := listC_intsN h5 HGl.out
                   have I5 := Lib.hid i5
                   have S5 := Lib.hid (I4.out.upN b5)
                   have T5 := Lib.hid (T4.out.next b5)
                   have B5 := Lib.hid (Below.next B4.out (Nat.le_refl _) b5)
                   clear h5 i5 b5)
      clear z0 I4 T4 B4 HG
      go_loop [5, 6, 8] (fun x y i => ∃ k : Nat, k ≤ n + 1 ∧ i = .int .i64 (k : Int) ∧ x = .int .i64 (topN S k : Int) ∧ y = .int .i64 (topN G k : Int)) (fun _ _ i => n + 1 - (intOf i).toNat)
      case atStart => exact ⟨0, Nat.zero_le _, rfl, rfl, rfl⟩
      case round =>
        obtain ⟨k, hk, rfl, rfl, rfl⟩ := hrel
        by_cases hlt : k < n + 1
        · obtain ⟨bs, os, rfl, _, cs⟩ := S5.out.at_ (i := k) (by rw [HS.out]; exact hlt)
          obtain ⟨bg, og, rfl, _, cg⟩ := I5.out.at_ (i := k) (by rw [HGl.out]; exact hlt)
          rw [iL_el] at cs cg
          have s10 := HB.out.s10 k hlt
          have g10 := HB.out.g10 k hlt
          have e1 : topN S (k + 1) = max (topN S k) (nl S k + 1) := rfl
          have e2 : topN G (k + 1) = max (topN G k) (nl G k + 1) := rfl
          obtain ⟨x, hx⟩ : ∃ x, x = nl S k := ⟨_, rfl⟩
          obtain ⟨y, hy⟩ : ∃ y, y = nl G k := ⟨_, rfl⟩
          rw [← hx] at cs s10 e1
          rw [← hy] at cg g10 e2
          have HE := Lib.hid (And.intro e1 e2)
          have m1 : (if (topN S k : Int) < (x : Int) + 1 then (x : Int) + 1 else (topN S k : Int)) = (topN S (k + 1) : Int) := by split <;> omega
          have m2 : (if (topN G k : Int) < (y : Int) + 1 then (y : Int) + 1 else (topN G k : Int)) = (topN G (k + 1) : Int) := by split <;> omega
          clear hx hy e1 e2
          go_wp2
          clear m1 m2
          go_round
          case rel => exact ⟨k + 1, by omega, by go_num, rfl, rfl⟩
          case measure => simp [intOf]; omega
        · obtain rfl : k = n + 1 := by omega
          have q1 : IntKind.i64.wrap (((n + 1 : Nat) : Int) - 1) = (n : Int) := by rw [wrapW (by omega)]; omega
          have q1' : wrap64 (((n + 1 : Nat) : Int) - 1) = (n : Int) := by rw [wrapW' (by omega)]; omega
          obtain ⟨b, off, rfl, hbB, hrows⟩ := T5.out (by intro e; have := HN.out; rw [e] at this; simp at this)
          have HbB := Lib.hid hbB
          have HRo := Lib.hid hrows
          clear hbB hrows
          have C0 : Hid (SmT w5 (w5.alloc (.cells #[] 29)) R n 0 (some ⟨w5.heap.size, 0, none⟩) 0 []) := ⟨GVb.lit0 w5 w5.heap.size (Nat.le_refl _), fun i hi => absurd hi (by omega), alloc_belowX _ _⟩
          have Z : Hid ((gpN R : Int) ≤ (topN S (n + 1) : Int) ∧ (topN S (n + 1) : Int) ≤ (topN G (n + 1) : Int) ∧ topN U n ≤ topN S (n + 1)) := by
            have h1 := HB.out.gp; have h2 := HB.out.sg; have h3 := HB.out.us
            exact ⟨by omega, by omega, h3⟩
          generalize topN S (n + 1) = mS at *
          generalize topN G (n + 1) = mG at *
          go_wp2
          clear q1 q1'
          generalize w5.alloc (.cells #[] 29) = W0 at *
          go_loopw [10, 11] (fun s i wr => ∃ (k cs : Nat) (as_ : Option Addr) (vs : List Value), k ≤ n ∧ i = .int .i64 (k : Int) ∧ s = .slice as_ k cs ∧ SmT w5 wr R n k as_ cs vs) (fun _ i _ => n - (intOf i).toNat)
          case atStart => exact ⟨0, 0, _, [], Nat.zero_le _, rfl, rfl, C0.out⟩
          case round =>
            obtain ⟨k, cs, as_, vs, hk, rfl, rfl, hsm⟩ := hrel
            have HL := Lib.hid hsm
            have hsz := hsm.bl.size
            clear hsm C0
            by_cases hlt : k < n
            · obtain ⟨ad, cp, hrow3, hcp, hcm, hbl⟩ := HRo.out k (by have := HN.out; omega)
              have hlen : (rwB R k).length = n + 1 := (HO.out.2.1 k (by have := HN.out; omega)).trans HN.out
              rw [hlen] at hrow3 hcp
              obtain ⟨b3, off3, rfl, hb3, _⟩ := hbl.at_ (i := 0) (by omega)
              have hrow : wr.cell? ⟨b, off + k, none⟩ = some (.slice (some ⟨b3, off3, none⟩) (n + 1) cp) := (HL.out.bl.cell (p := ⟨b, off + k, none⟩) HbB.out).trans hrow3
              have HB3 := Lib.hid hbl
              have hncp : n ≤ cp := by omega
              have hcm2 := hcm
              clear hbl hlen hrow3
              have C6 := Lib.hid (HL.out.next (alloc_belowX wr (.cells #[.slice (some ⟨b3, off3, none⟩) n cp] 29)))
              go_wp2_with (at_builtin; refine wpList_appendVb (.tmp 62) (.tmp 69) w5.heap.size as_ k cs vs ⟨wr.heap.size, 0, none⟩ (some ⟨b3, off3, none⟩) n cp rfl rfl rfl (by simp [Act.eval]) C6.out.gs (by simp) (by omega) (by simp; omega) ?_
                           intro a7 cap7 w7 h1 h2
                           have C7 := Lib.hid (C6.out.row h1 h2 ⟨hncp, hcm⟩ HB3.out)
                           clear h1 h2)
              go_roundw
              case rel => exact ⟨k + 1, cap7, a7, _, by omega, by go_num, rfl, C7.out⟩
              case measure => simp [intOf]; omega
            · obtain rfl : k = n := by omega
              have HBest := Lib.hid (bestSlots_any as_ cs (cutT R k) wr (sm_tbl HL.out.gs HL.out.sm HL.out.bl HL.out.bl.size (fun i hi => by rw [HO.out.2.1 i (by have := HN.out; omega), HN.out]; omega)))
              rw [cutT_len, HF1.out] at HBest
              have T6 := Lib.hid (T5.out.next (HL.out.bl))
              have S6 := Lib.hid (S5.out.upN (HL.out.bl))
              have B6 := Lib.hid (Below.next B5.out (Nat.le_refl _) HL.out.bl)
              clear HL T5 S5 I5 B5 HbB HRo
              go_wp2_with fail
              refine HBest.out.mono ?_
              intro e w7 h7
              obtain ⟨a7, c7, rfl, i7, b7⟩ := listC_intsN (N := k) h7 (by rw [iL_len]; exact HB.out.ul)
              have I7 := Lib.hid i7
              have S7 := Lib.hid (S6.out.upN b7)
              have T7 := Lib.hid (T6.out.next b7)
              have B7 := Lib.hid (Below.next B6.out (Nat.le_refl _) b7)
              clear h7 i7 b7 T6 S6 B6 HBest
              go_wp2
              go_loop [12, 14] (fun x i => ∃ j : Nat, j ≤ k ∧ i = .int .i64 (j : Int) ∧ x = .int .i64 (topN U j : Int)) (fun _ i => k - (intOf i).toNat)
              case atStart => exact ⟨0, Nat.zero_le _, rfl, rfl⟩
              case round =>
                obtain ⟨j, hj, rfl, rfl⟩ := hrel
                by_cases hlt2 : j < k
                · obtain ⟨bs, os, rfl, _, cu⟩ := I7.out.at_ (i := j) (by rw [iL_len, HB.out.ul]; exact hlt2)
                  rw [iL_el] at cu
                  have u10 := HB.out.u10 j hlt2
                  have e1 : topN U (j + 1) = max (topN U j) (nl U j + 1) := rfl
                  obtain ⟨x, hx⟩ : ∃ x, x = nl U j := ⟨_, rfl⟩
                  rw [← hx] at cu u10 e1
                  have m1 : (if (topN U j : Int) < (x : Int) + 1 then (x : Int) + 1 else (topN U j : Int)) = (topN U (j + 1) : Int) := by split <;> omega
                  clear hx e1
                  go_wp2
                  clear m1
                  go_round
                  case rel => exact ⟨j + 1, by omega, by go_num, rfl⟩
                  case measure => simp [intOf]; omega
                · obtain rfl : j = k := by omega
                  have HV1 := Lib.hid (HV.out w7 T7.out S7.out)
                  have z1 := Z.out.1
                  have z2 := Z.out.2.1
                  have z3 : (topN U j : Int) ≤ (mS : Int) := by have := Z.out.2.2; omega
                  generalize topN U j = mU at *
                  generalize gpN R = mP at *
                  go_wp2_with (first
                    | (go_at_call 14; (with_reducible refine HP1.out.mono ?_); rintro e w9 ⟨rfl, b9⟩
                       have B9 := Lib.hid (Below.next B8.out (Nat.le_refl _) b9)
                       clear b9)
                    | (go_at_call 13; (with_reducible refine HV1.out.mono ?_); rintro e w8 ⟨rfl, b8⟩
                       have B8 := Lib.hid (Below.next B7.out (Nat.le_refl _) b8)
                       have HP1 := Lib.hid (HP.out w8 (T7.out.next b8) (D0.out.next B8.out))
                       clear b8))
                  go_ret
                  exact ⟨rfl, B9.out⟩
  · have hl' : (1048576 : Int) < (ds.length : Int) := by omega
    go_enter Tryd.func3, Tryd.ntmps3
    go_wp2
    go_ret
    exact ⟨rfl, Below.refl _ _⟩
end Go.Proofs.YtibgpgifdjefnaaDoor
