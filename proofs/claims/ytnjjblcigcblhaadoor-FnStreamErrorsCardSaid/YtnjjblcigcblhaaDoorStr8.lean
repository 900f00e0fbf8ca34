/-
  What the model's search answers: the best path. Condition: a list that can be decoded.
-/
import Derived.Test.YtnjjblcigcblhaaDoorStr7
import Derived.BigRegion
import Derived.Deep.RegionHeld3
namespace Go.Proofs.YtnjjblcigcblhaaDoor
open Go.RowKit

theorem MR.new {w W : World} {R g : Nat} {d : Nat → PD} {f : Nat → Option Surv} (h : NR w W R g d f) : MR w (W.alloc (.cells (rowQ noPaths) 65)) R g W.heap.size d noPaths f (fun _ => none) := by
  have hb := below_new W (.cells (rowQ noPaths) 65)
  obtain ⟨⟨h1, h2⟩, ⟨c, h3, h4⟩, h5, h6⟩ := h.next hb
  exact ⟨h.next hb, ⟨⟨heap_alloc_last _ _, fun t _ => rfl⟩, ⟨c, h3, h4⟩, ⟨h5.1, by have := lt_of_heap h.1.1; omega⟩, h6⟩, lt_of_heap h.1.1⟩
/-- Whether a path is better than what has been found for its state. -/
def btr : Option Surv → Surv → Bool
  | none, _ => true
  | some q, p => bet p q
theorem better_any {w W : World} {R g x p t k cap c2 : Nat} {d e : Nat → PD} {f h : Nat → Option Surv} {a : Option Addr} {L : List Nat} (H : CR w W R g x p d e f h (a, k + 1, cap, c2, true) (some (c2, L))) (ht : t < 4) (hg : GoodF (k + 1) h) (hL : L.length = k + 1) (hb : Bits2 L) (hk : k ≤ 50) :
    Calls Tryd.prog 55 #[.agg #[.slice a (k + 1) cap, .int .i64 c2, .bool true], .agg #[.slice (e t).1 (e t).2.1 (e t).2.2.1, .int .i64 (e t).2.2.2.1, .bool (e t).2.2.2.2]] W fun e' w' => e' = .returned (.bool (btr (h t) (c2, L))) ∧ Below W.heap.size W w' := by
  have hp := H.1.2.1.1.2 t ht
  have ho : OwnInts .i64 3 W 0 a (ints L) := H.2.2.1.2.2.2.2
  cases eh : h t with
  | none =>
    rw [eh] at hp
    have hu : (e t).2.2.2.2 = false := hp
    rw [hu]
    exact l7Better_free a (e t).1 (k + 1) (e t).2.1 cap (e t).2.2.1 c2 (e t).2.2.2.1 true W
  | some q =>
    rw [eh] at hp
    obtain ⟨hu, hc, hn, _, hq⟩ := hp
    obtain ⟨q1, q2⟩ := hg t q ht eh
    rw [hu, hc, hn, show q.2.length = L.length by omega, ← hL]
    exact l7Better_used a (e t).1 cap (e t).2.2.1 c2 q.1 L q.2 W hb q2 (by omega) (by omega) ho.ints0 hq.ints0
theorem stepC_yes {n k s j t : Nat} {r : Nat × Nat} {now h : Nat → Option Surv} {p : Surv} (hc : cand n k r now s j = some p) (ht : t = nsN s j) (hb : btr (h t) p = true) : stepC n k r now s j h = fun i => if i = t then some p else h i := funext fun i => by
  unfold stepC
  rw [hc, show s % 2 * 2 + j = t from ht.symm]
  by_cases e : i = t
  · subst e
    simp only [if_true]
    cases eh : h i with
    | none => rfl
    | some q =>
      rw [eh] at hb
      simp only [btr] at hb
      simp [sComb, hb]
  · simp only [e, if_false]
theorem stepC_no {n k s j t : Nat} {r : Nat × Nat} {now h : Nat → Option Surv} {p : Surv} (hc : cand n k r now s j = some p) (ht : t = nsN s j) (hb : btr (h t) p = false) : stepC n k r now s j h = h := funext fun i => by
  unfold stepC
  rw [hc, show s % 2 * 2 + j = t from ht.symm]
  by_cases e : i = t
  · subst e
    simp only [if_true]
    cases eh : h i with
    | none => rw [eh] at hb; cases hb
    | some q =>
      rw [eh] at hb
      simp only [btr] at hb
      simp [sComb, hb]
  · simp only [e, if_false]
/-- What the drawn region reads. -/
def CRC (w W : World) (R g x p : Nat) (d e : Nat → PD) (f h : Nat → Option Surv) (v : PD) (o : Option Surv) : Prop := Hid (CR w W R g x p d e f h v o)
section
variable {w W W' : World} {R g x p t : Nat} {d e : Nat → PD} {f h : Nat → Option Surv} {v : PD} {o : Option Surv}
theorem CR.all (H : CR w W R g x p d e f h v o) (ht : t < 4) : CRC w W R g x p d e f h v o ∧ W.cell? ⟨p, 0, none⟩ = some (.slice v.1 v.2.1 v.2.2.1) ∧ W.cell? ⟨p, 1, none⟩ = some (.int .i64 v.2.2.2.1) ∧ W.cell? ⟨p, 2, none⟩ = some (.bool v.2.2.2.2) ∧
    W.cell? ⟨x, t * 3, none⟩ = some (.slice (e t).1 (e t).2.1 (e t).2.2.1) ∧ W.cell? ⟨x, t * 3 + 1, none⟩ = some (.int .i64 (e t).2.2.2.1) ∧ W.cell? ⟨x, t * 3 + 2, none⟩ = some (.bool (e t).2.2.2.2) :=
  ⟨H, cell_of_row _ _ 0 _ _ _ H.2.1, cell_of_row _ _ 1 _ _ _ H.2.1, cell_of_row _ _ 2 _ _ _ H.2.1, rowQ_cell H.1.2.1.1.1 ht⟩
theorem CR.all_next {X : Prop} (ht : t < 4) (hb : Below W.heap.size W W') (H : CRC w W R g x p d e f h v o ∧ X) : CRC w W' R g x p d e f h v o ∧ W'.cell? ⟨p, 0, none⟩ = some (.slice v.1 v.2.1 v.2.2.1) ∧ W'.cell? ⟨p, 1, none⟩ = some (.int .i64 v.2.2.2.1) ∧ W'.cell? ⟨p, 2, none⟩ = some (.bool v.2.2.2.2) ∧
    W'.cell? ⟨x, t * 3, none⟩ = some (.slice (e t).1 (e t).2.1 (e t).2.2.1) ∧ W'.cell? ⟨x, t * 3 + 1, none⟩ = some (.int .i64 (e t).2.2.2.1) ∧ W'.cell? ⟨x, t * 3 + 2, none⟩ = some (.bool (e t).2.2.2.2) := ((Hid.out H.1).next hb).all ht
theorem CRC.back {X : Prop} (H : CRC w W R g x p d e f h v o ∧ X) : CR w W R g x p d e f h v o := Hid.out H.1
end
theorem infoT : (Tryd.prog.info? 65).map (·.size) = some 3 := by kernel_rfl
theorem storeT {ops : Array Oper} {rest : List Oper} {o : Oper} {a : Act} {w : World} {Q : Exit → Act → World → Prop} (x y : Operand) (g : Nat) (v : PD) (old : Array Value)
    (hg : w.heap[g]? = some (.cells old 65 (0, 0))) (hs : old.size = 3)
    (hgd : o.guard = none) (ho : o.op = .store 65 x y) (hx : a.eval x = .pointer (some ⟨g, 0, none⟩)) (hy : a.eval y = .agg #[.slice v.1 v.2.1 v.2.2.1, .int .i64 v.2.2.2.1, .bool v.2.2.2.2])
    (h : ∀ W, Hid (W = w.setRow g #[.slice v.1 v.2.1 v.2.2.1, .int .i64 v.2.2.2.1, .bool v.2.2.2.2]) → wpList Tryd.prog ops Q rest (a.put o.dst undef) W) : wpList Tryd.prog ops Q (o :: rest) a w :=
  wpList_store_row hgd 65 x y ho g #[.slice v.1 v.2.1 v.2.2.1, .int .i64 v.2.2.2.1, .bool v.2.2.2.2] hx hy 65 old hg (by rw [infoT]; rfl) (by rw [hs]; rfl) (by simp [Value.oneCell']) (h _ rfl)
/-- The result is stored: what was known stays. -/
theorem NR.result {w W W' : World} {R g : Nat} {d : Nat → PD} {f : Nat → Option Surv} {v : PD} {p : Surv} (H : NR w W R g d f) (hp : PathAt W v (some p)) (hW : Hid (W' = W.setRow R #[.slice v.1 v.2.1 v.2.2.1, .int .i64 v.2.2.2.1, .bool v.2.2.2.2])) :
    W'.heap[R]? = some (.cells #[.slice v.1 v.2.1 v.2.2.1, .int .i64 v.2.2.2.1, .bool v.2.2.2.2] 65 (0, 0)) ∧ Ints .i64 W' W'.heap.size v.1 (ints p.2) ∧ Below w.heap.size w W' := by
  have hW' := hW.out
  subst hW'
  obtain ⟨_, ⟨c, h3, _⟩, h5, h6⟩ := H
  refine ⟨setRow_heap _ _ _ _ _ _ h3, (hp.2.2.2.2.kept fun b c' hc => setRow_other _ _ _ _ fun e => ?_).ints0, below_setRow h6 h5.1 _⟩
  subst e
  rw [h3] at hc
  injection hc with hc
  injection hc with _ hc
  cases hc
/-- What the search leaves: the best path, by value; its bits can be read. -/
def SearchPost (rs : List (Nat × Nat)) (w : World) (e : Ending) (w' : World) : Prop := ∃ v cap, e = .returned (.agg #[.slice v (allS rs).length cap, .int .i64 (errS rs), .bool true]) ∧ (allS rs).length ≤ cap ∧ Ints .i64 w' w'.heap.size v (ints (allS rs)) ∧ Below w.heap.size w w'
set_option maxRecDepth 100000 in
set_option maxHeartbeats 4000000 in
theorem l7Search_any (a : Option Addr) (c : Nat) (xs : List Int) (w : World) (hx : Ints .i64 w w.heap.size a xs) (hok : codedOk xs = true) :
    Calls Tryd.prog 46 #[.slice a xs.length c] w (SearchPost (prs xs) w) := by
  obtain ⟨l1, l2, l3, l4⟩ := codedOk_parts hok
  have HX := Lib.hid hx
  have hmk := fun W => makeQ W
  obtain ⟨rs, hrs⟩ : ∃ rs, rs = prs xs := ⟨_, rfl⟩
  have hrl : rs.length = xs.length / 2 := by rw [hrs, prs_length]
  have hrp : Pairs2 rs := by rw [hrs]; exact prs_pairs l4
  obtain ⟨n, hn⟩ : ∃ n, n = xs.length / 2 - 2 := ⟨_, rfl⟩
  have en : (xs.length : Int) / 2 - 2 = (n : Int) := by omega
  have hn40 : n ≤ 40 := by omega
  have HS := Lib.hid (fw_sv rs n (by omega))
  have HRS := Lib.hid (And.intro hrs (And.intro hrl (And.intro hrp (show rs.length = n + 2 by omega))))
  rw [← hrs]
  have hlen : 2 * n + 4 = xs.length := by omega
  have HLN := Lib.hid hlen
  obtain ⟨R, hR⟩ : ∃ R, R = w.heap.size := ⟨_, rfl⟩
  have N0 := Lib.hid (NR.start n rs (w := w) rfl)
  clear hx hok hrs hrl hrp hn hlen l1 l2 l3
  go_enter Tryd.func46, Tryd.ntmps46
  go_wp2
  clear en
  generalize (w.alloc (.cells #[.slice none 0 0, .int .i64 0, .bool false] 65)).alloc (.cells #[.slice none 0 0, .int .i64 0, .bool true, .slice none 0 0, .int .i64 0, .bool false, .slice none 0 0, .int .i64 0, .bool false, .slice none 0 0, .int .i64 0, .bool false] 65) = W0 at *
  rw [← hR] at N0 ⊢
  have HRR := Lib.hid hR
  clear hR
  go_loopw [3, 5] (fun s i wr => ∃ (k g : Nat) (d : Nat → PD), k ≤ n + 2 ∧ i = .int .i64 (k : Nat) ∧ s = .slice (some ⟨g, 0, none⟩) 4 4 ∧ NR w wr R g d (fw n rs k)) (fun _ i _ => n + 2 - (intOf i).toNat)
  case atStart => exact ⟨0, _, _, by omega, rfl, rfl, N0.out⟩
  case round =>
    obtain ⟨k, g, d, hk, rfl, rfl, hnr⟩ := hrel
    have HN := Lib.hid hnr
    clear hnr
    by_cases hlt : k < n + 2
    · have M0 := Lib.hid (MR.new HN.out)
      have hgd := fw_good (n := n) (k := k) (rs := rs) (by have := HRS.out.2.2.2; omega)
      have hle := fun t q ht e => fw_le (n := n) (k := k) (t := t) (q := q) (rs := rs) (by have := HRS.out.2.2.2; omega) HRS.out.2.2.1 (by have := HRS.out.2.2.2; omega) ht e
      have HFS : Hid (newF n k (rs.getD k (0, 0)) (fw n rs k) 4 = fw n rs (k + 1)) := rfl
      obtain ⟨r, hr⟩ : ∃ r, r = rs.getD k (0, 0) := ⟨_, rfl⟩
      obtain ⟨F, hF⟩ : ∃ F, F = fw n rs k := ⟨_, rfl⟩
      rw [← hF, ← hr] at HFS
      rw [← hF] at hgd hle M0
      obtain ⟨r0, hr0⟩ : ∃ m, m = r.1 := ⟨_, rfl⟩
      obtain ⟨r1, hr1⟩ : ∃ m, m = r.2 := ⟨_, rfl⟩
      have HRD := Lib.hid (And.intro hr (And.intro hr0 hr1))
      have HGD := Lib.hid (And.intro hgd hle)
      obtain ⟨q, hq⟩ : ∃ q, q = 2 * k := ⟨_, rfl⟩
      obtain ⟨q1, hq1⟩ : ∃ q1, q1 = q + 1 := ⟨_, rfl⟩
      have hql : q1 < xs.length := by have := HLN.out; omega
      have hpr := prs_get (xs := xs) (k := k) (by omega)
      rw [← HRS.out.1, ← hr, ← hq, ← hq1] at hpr
      have hb0 : el xs q = (r0 : Int) ∧ r0 < 2 := by
        rw [hr0, hpr]
        rcases isBit_cases (List.all_eq_true.1 l4 _ (el_mem (show q < xs.length by omega))) with e | e <;> rw [e] <;> exact ⟨rfl, by simp⟩
      have hb1 : el xs q1 = (r1 : Int) ∧ r1 < 2 := by
        rw [hr1, hpr]
        rcases isBit_cases (List.all_eq_true.1 l4 _ (el_mem hql)) with e | e <;> rw [e] <;> exact ⟨rfl, by simp⟩
      obtain ⟨hb0, h0⟩ := hb0
      obtain ⟨hb1, h1⟩ := hb1
      have HEL := Lib.hid (And.intro hb0 hb1)
      have hq0 : q < xs.length := by omega
      have HQ := Lib.hid (And.intro hq hq1)
      have hkb : decide ((k : Int) < (n : Int) + 2) = true := by simp; omega
      clear hF hr hr0 hr1 hpr hb0 hb1 hgd hle hq hq1
      go_wp2
      clear hmk
      generalize wr.alloc (.cells (rowQ noPaths) 65) = W2 at *
      generalize wr.heap.size = x at *
      go_loopw [7] (fun v wr => ∃ (s : Nat) (e : Nat → PD), s ≤ 4 ∧ v = .int .i64 (s : Nat) ∧ MR w wr R g x d e F (newF n k r F s)) (fun v _ => 4 - (intOf v).toNat)
      case atStart => exact ⟨0, noPaths, by omega, rfl, M0.out⟩
      case round =>
        obtain ⟨s, e, hs, rfl, hmr⟩ := hrel
        have HM := Lib.hid hmr
        clear hmr
        by_cases hs4 : s < 4
        · have hsb : decide ((s : Int) < 4) = true := by simp; omega
          go_wp2
          go_loopw [8] (fun v wr => ∃ (j : Nat) (e : Nat → PD), j ≤ 2 ∧ v = .int .i64 (j : Nat) ∧ MR w wr R g x d e F (stB n k r F s j)) (fun v _ => 2 - (intOf v).toNat)
          case atStart => exact ⟨0, e, by omega, rfl, HM.out⟩
          case round =>
            obtain ⟨j, e, hj, rfl, hmr⟩ := hrel
            have HJ := Lib.hid hmr
            clear hmr
            obtain ⟨cB, cC, cU⟩ := rowQ_cell HJ.out.1.1.1 hs4
            have hpa := HJ.out.1.1.2 s hs4
            by_cases hj2 : j < 2
            · cases hFs : F s with
              | none =>
                rw [hFs] at hpa
                have hu : (d s).2.2.2.2 = false := hpa
                rw [hu] at cU
                have HE := Lib.hid (stB_unused (n := n) (k := k) (r := r) hFs hj)
                clear hpa hu hFs cB cC
                go_wp2
                go_roundw
                case rel => exact ⟨s + 1, e, by omega, by go_num, by rw [← HE.out]; exact HJ.out⟩
                case measure => simp [intOf]; omega
              | some pq =>
                obtain ⟨c1, l⟩ := pq
                rw [hFs] at hpa
                obtain ⟨hu, hc, hn, _, ho⟩ := hpa
                rw [hu] at cU
                rw [hc] at cC
                rw [hn] at cB
                obtain ⟨hl, hlb⟩ : l.length = k ∧ Bits2 l := HGD.out.1 s _ hs4 hFs
                have hc84 : c1 ≤ 84 := HGD.out.2 s _ hs4 hFs
                by_cases hsh : n ≤ k ∧ j = 1
                · obtain ⟨hnk, rfl⟩ := hsh
                  have HE := Lib.hid (stB_shut (r := r) (now := F) (s := s) hnk)
                  clear hu hc hn ho hFs cB cC hl hlb
                  go_wp2
                  go_roundw
                  case rel => exact ⟨s + 1, e, by omega, by go_num, by rw [← HE.out]; exact HJ.out⟩
                  case measure => simp [intOf]; omega
                · have HP := Lib.hid (fun W => l7Pair_any s j W hs4 hj2)
                  have HQN := Lib.hid (fun W => l7Next_any s j W hs4 hj2)
                  have hp2 := q1N_lt hs4 hj2
                  have hq2 := q2N_lt hs4 hj2
                  have ht4 := nsN_lt (s := s) hj2
                  obtain ⟨t, ht⟩ : ∃ t, t = nsN s j := ⟨_, rfl⟩
                  obtain ⟨p0, hp0⟩ : ∃ p, p = q1N s j := ⟨_, rfl⟩
                  obtain ⟨p1, hp1⟩ : ∃ p, p = q2N s j := ⟨_, rfl⟩
                  rw [← ht] at HQN ht4
                  rw [← hp0] at HP hp2
                  rw [← hp1] at HP hq2
                  obtain ⟨u0, hu0⟩ : ∃ u, u = p0 ^^^ r0 := ⟨_, rfl⟩
                  obtain ⟨u1, hu1⟩ : ∃ u, u = p1 ^^^ r1 := ⟨_, rfl⟩
                  have hx0 := bit_xor hp2 h0
                  have hx1 := bit_xor hq2 h1
                  have lu0 := xor_bit hp2 h0
                  have lu1 := xor_bit hq2 h1
                  rw [← hu0] at hx0 lu0
                  rw [← hu1] at hx1 lu1
                  obtain ⟨ca, hca⟩ : ∃ m, m = c1 + u0 := ⟨_, rfl⟩
                  obtain ⟨c2, hc2⟩ : ∃ m, m = ca + u1 := ⟨_, rfl⟩
                  have HC : Hid (cand n k r F s j = some (c2, l ++ [j])) := by
                    show cand n k r F s j = _
                    rw [cand, if_neg hsh, hFs, sSnoc]
                    have e1 : dS (s % 2) (s / 2) j r = u0 + u1 := by
                      rw [hu0, hu1, hp0, hp1, HRD.out.2.1, HRD.out.2.2]; rfl
                    rw [e1, hc2, hca, Nat.add_assoc]
                  have hwr1 : IntKind.i64.wrap ((c1 : Int) + (u0 : Int)) = (ca : Int) := by rw [IntKind.wrap_i64]; omega
                  have hwr2 : IntKind.i64.wrap ((ca : Int) + (u1 : Int)) = (c2 : Int) := by rw [IntKind.wrap_i64]; omega
                  have hwq : IntKind.i64.wrap (2 * (k : Int)) = (q : Int) := by have := HQ.out.1; rw [IntKind.wrap_i64]; omega
                  have hwq1 : IntKind.i64.wrap ((q : Int) + 1) = (q1 : Int) := by have h1 := HQ.out.1; have h2 := HQ.out.2; clear hwr1 hwr2 hwq; rw [IntKind.wrap_i64]; omega
                  obtain ⟨b, off, rfl, hb, hc0⟩ := (HX.out.below HJ.out.1.2.2.2).at_ hq0
                  obtain ⟨b', off', e', _, hc1⟩ := (HX.out.below HJ.out.1.2.2.2).at_ hql
                  injection e' with e'
                  injection e' with e1 e2 _
                  subst e1 e2
                  rw [HEL.out.1] at hc0
                  rw [HEL.out.2] at hc1
                  have hgw : g < wr.heap.size := lt_of_heap HJ.out.1.1.1
                  have hbw : b < wr.heap.size := Nat.lt_of_lt_of_le hb HJ.out.1.2.2.2.size
                  have HTT := Lib.hid ht
                  have HSH := Lib.hid hsh
                  have HLL := Lib.hid (And.intro hl (And.intro hlb (And.intro hn ho)))
                  have hcA2 : c2 ≤ 90 := by omega
                  have HM5 := Lib.hid (HJ.out.next ((below_new wr (.cells #[.slice none 0 0, .int .i64 c2, .bool true] 65)).drew))
                  have HP5 : Hid ((wr.alloc (.cells #[.slice none 0 0, .int .i64 c2, .bool true] 65)).drew.heap[wr.heap.size]? = some (.cells #[.slice none 0 0, .int .i64 c2, .bool true] 65 (0, 0))) := heap_alloc_last _ _
                  have HF := Lib.hid hFs
                  have HXP : Hid (x < wr.heap.size) := lt_of_heap HJ.out.2.1.1.1
                  have hway : (n ≤ k ∧ ((j : Int) == 1) = false) ∨ k < n := by
                    by_cases hnk : n ≤ k
                    · exact .inl ⟨hnk, by have : j ≠ 1 := fun e => hsh ⟨hnk, e⟩; rw [beq_eq_false_iff_ne]; omega⟩
                    · exact .inr (by omega)
                  clear ht hp0 hp1 hu0 hu1 hca hc2 hl hlb hn ho hu hc hFs hsh hb
                  rcases hway with ⟨hnk, z⟩ | hnk
                  all_goals
                    go_wp2_with (go_at_call 38; refine (HP.out _).mono ?_; rintro e w' ⟨rfl, rfl⟩)
                    go_region
                    all_goals
                      clear hwr1 hwr2 hwq hwq1 hx0 hx1 hc0 hc1 cB cC cU hgw hbw
                      generalize (wr.alloc (.cells #[.slice none 0 0, .int .i64 c2, .bool true] 65)).drew = W5 at *
                      generalize wr.heap.size = pb at *
                      obtain ⟨cB5, _, _⟩ := rowQ_cell HM5.out.1.1.1 hs4
                      have hpa5 := HM5.out.1.1.2 s hs4
                      rw [HF.out] at hpa5
                      obtain ⟨_, _, hn5, _, ho5⟩ := hpa5
                      rw [hn5, HLL.out.1] at cB5
                      have cB6 : (W5.alloc (.cells #[] 3)).cell? ⟨g, s * 3, none⟩ = some (.slice (d s).1 k (d s).2.2.1) := (Below.cell (p := ⟨g, s * 3, none⟩) (below_new W5 _) (lt_of_heap HM5.out.1.1.1)).trans cB5
                      generalize (d s).1 = A at *
                      generalize (d s).2.2.1 = capA at *
                      have I6 := Lib.hid (ho5.ints0.next (below_new W5 (.cells #[] 3)))
                      have L6 := Lib.hid (Grow.lit0 .i64 3 W5 W5.heap.size (Nat.le_refl _))
                      have HLI := Lib.hid (show (ints l).length = k by rw [ints_length]; exact HLL.out.1)
                      have hk42 : k ≤ 42 := by omega
                      have HFI : Hid (ints l ++ [(j : Int)] = ints (l ++ [j])) := (ints_app l [j]).symm
                      clear cB5 hn5 ho5
                      go_wp2_with (first
                        | (at_builtin; refine wpList_appendA (.tmp 80) (.tmp 85) W5.heap.size (some ⟨W5.heap.size, 0, none⟩) A 0 0 k capA _ [] (ints l) rfl rfl rfl rfl L6.out I6.out HLI.out (by omega) (by simp) ?_; intro a6 cap6 w6 hg6 hb6 ha6; rw [Nat.zero_add, List.nil_append] at hg6; have HG6 := Lib.hid (hg6.alloc (.cells #[.int .i64 (j : Int)] 3)); have HB6 := Lib.hid ((below_new W5 (.cells #[] 3)).trans hb6); have hs6 : W5.heap.size ≤ w6.heap.size := HB6.out.size; clear hg6 hb6 ha6)
                        | (at_builtin; refine wpList_append1 (.tmp 86) (.tmp 88) W5.heap.size a6 k cap6 (ints l) ⟨w6.heap.size, 0, none⟩ (j : Int) rfl rfl rfl rfl HG6.out (cell_of_row _ _ 0 _ _ _ (heap_alloc_last _ _)) (by omega) (by simp; omega) ?_; intro a7 cap7 w7 hg7 hb7; have hb7' : Below W5.heap.size W5 w7 := (HB6.out.alloc hs6 _).trans hb7; have hp7 := (hb7'.block _ (lt_of_heap HP5.out)).trans HP5.out; have cp7 : w7.cell? ⟨pb, 0, none⟩ = some (.slice none 0 0) := cell_of_row _ _ 0 _ _ _ hp7; have fp7 : w7.frozen? ⟨pb, 0, none⟩ = false := (by simp [World.frozen?, hp7]); have HG7 := Lib.hid (HFI.out ▸ hg7.owned); have HRO7 := Lib.hid hg7.room.1; have HP7 := Lib.hid hp7; have HM7 := Lib.hid (HM5.out.next hb7'); clear hg7 hb7 hb7' hp7)
                        | (go_at_call 39; refine (HQN.out _).mono ?_; rintro e w' ⟨rfl, rfl⟩))
                      have HC8 := Lib.hid (CR.made (cap := cap7) HM7.out HP7.out HXP.out (n := k + 1) (l := l ++ [j]) (by simp [HLL.out.1]) HRO7.out HG7.out)
                      clear cp7 fp7 cB6 HM7 HP7 HG7 HG6 L6 I6 HRO7
                      generalize w7.setCell ⟨pb, 0, none⟩ (.slice a7 (k + 1) cap7) = W8 at *
                      have HGH := Lib.hid (stB_good (r := r) (n := n) (s := s) (j := j) HGD.out.1 hs4 hj)
                      have hLk : (l ++ [j]).length = k + 1 := by simp [HLL.out.1]
                      have hLb : Bits2 (l ++ [j]) := HLL.out.2.1.app (Bits2.mk hj2 Bits2.nil)
                      have HBE := Lib.hid (fun W H => better_any (w := w) (W := W) (R := R) (g := g) (x := x) (p := pb) (t := t) (k := k) (cap := cap7) (c2 := c2) (d := d) (e := e) (f := F) (h := stB n k r F s j) (a := a7) (L := l ++ [j]) H ht4 HGH.out hLk hLb (by omega))
                      obtain ⟨hds, y0, y1, y2, z0, z1, z2⟩ := HC8.out.all ht4
                      have hti0 : (0 : Int) ≤ (t : Int) := by omega
                      have hti4 : (t : Int) < 4 := by omega
                      have hst := fun hb => stB_next (n := n) (k := k) (r := r) (now := F) (s := s) hj2 ▸ stepC_yes HC.out HTT.out hb
                      have hsf := fun hb => stB_next (n := n) (k := k) (r := r) (now := F) (s := s) hj2 ▸ stepC_no HC.out HTT.out hb
                      have HST := Lib.hid hst
                      have HSF := Lib.hid hsf
                      clear hst hsf hLk hLb
                      go_region_held3 (fun w' => CRC w w' R g x pb d e F (stB n k r F s j) (a7, k + 1, cap7, c2, true) (some (c2, l ++ [j])) ∧ w'.cell? ⟨pb, 0, none⟩ = some (.slice a7 (k + 1) cap7) ∧ w'.cell? ⟨pb, 1, none⟩ = some (.int .i64 (c2 : Int)) ∧ w'.cell? ⟨pb, 2, none⟩ = some (.bool true) ∧
                          w'.cell? ⟨x, t * 3, none⟩ = some (.slice (e t).1 (e t).2.1 (e t).2.2.1) ∧ w'.cell? ⟨x, t * 3 + 1, none⟩ = some (.int .i64 (e t).2.2.2.1) ∧ w'.cell? ⟨x, t * 3 + 2, none⟩ = some (.bool (e t).2.2.2.2))
                        (first
                          | exact CR.all (CR.next HC8.out (below_drewN (Below.refl _ _) 1)) ht4
                          | exact CR.all_next ht4 (by assumption) (by assumption)
                          | fail)
                        (first
                          | (go_at_call 55; (with_reducible refine (HBE.out _ (CRC.back (by assumption))).mono ?_); rintro e' w' ⟨rfl, hb⟩)
                          | fail)
                      all_goals
                        have D2 : CR w w' R g x pb d e F (stB n k r F s j) (a7, k + 1, cap7, c2, true) (some (c2, l ++ [j])) := CRC.back (by assumption)
                        have D3 := Lib.hid D2
                        have hfz : ∀ i, w'.frozen? ⟨x, i, none⟩ = false := fun i => by simp [World.frozen?, D2.1.2.1.1.1]
                        have fz0 := hfz (t * 3)
                        have fz1 := hfz (t * 3 + 1)
                        have fz2 := hfz (t * 3 + 2)
                        clear hds y0 y1 y2 z0 z1 z2 D2 hfz HBE HC8
                        obtain ⟨_, y0, y1, y2, z0, z1, z2⟩ := D3.out.all ht4
                        cases hbt : btr (stB n k r F s j t) (c2, l ++ [j]) with
                        | true =>
                          have HE := Lib.hid (HST.out hbt)
                          clear hbt
                          go_wp2
                          go_roundw
                          case rel => exact ⟨j + 1, _, by omega, by go_num, by rw [HE.out]; exact MR.store (a7, k + 1, cap7, c2, true) D3.out.1 ht4 D3.out.2.2.1⟩
                          case measure => simp [intOf]; omega
                        | false =>
                          have HE := Lib.hid (HSF.out hbt)
                          clear hbt
                          go_wp2
                          go_roundw
                          case rel => exact ⟨j + 1, e, by omega, by go_num, by rw [HE.out]; exact D3.out.1⟩
                          case measure => simp [intOf]; omega
            · have HE : Hid (stB n k r F s j = newF n k r F (s + 1)) := by
                obtain rfl : j = 2 := by omega
                rfl
              clear cB cC cU hpa
              go_wp2
              go_roundw
              case rel => exact ⟨s + 1, e, by omega, by go_num, by rw [← HE.out]; exact HJ.out⟩
              case measure => simp [intOf]; omega
        · obtain rfl : s = 4 := by omega
          go_wp2
          go_roundw
          case rel => exact ⟨k + 1, x, e, by omega, by go_num, rfl, by rw [← HFS.out]; exact HM.out.2.1⟩
          case measure => simp [intOf]; omega
    · obtain rfl : k = n + 2 := by omega
      obtain ⟨y0, y1, y2⟩ := rowQ_cell HN.out.1.1 (s := 0) (by omega)
      obtain ⟨cR, hcR, hcs⟩ := HN.out.2.1
      have hpa := HN.out.1.2 0 (by omega)
      rw [HS.out] at hpa
      have HPA := Lib.hid hpa
      obtain ⟨u1, u2, u3, u4, _⟩ := hpa
      rw [u1] at y2
      rw [u2] at y1
      rw [u3] at y0 u4
      rw [Nat.zero_mul] at y0
      rw [Nat.zero_mul, Nat.zero_add] at y1 y2
      have HPB : Hid (PathAt wr ((d 0).1, (allS rs).length, (d 0).2.2.1, errS rs, true) (some (errS rs, allS rs))) := ⟨rfl, rfl, rfl, u4, HPA.out.2.2.2.2⟩
      generalize (d 0).1 = A at *
      generalize (d 0).2.2.1 = capA at *
      have HCR := Lib.hid (And.intro hcR hcs)
      have HU4 := Lib.hid u4
      clear u1 u2 u3 u4 HPA hcR hcs
      go_wp2_with (first | (refine storeT (.tmp 2) (.tmp 107) R (A, (allS rs).length, capA, errS rs, true) cR HCR.out.1 HCR.out.2 rfl rfl rfl rfl ?_; intro W9 hW9; have HW9 := Lib.hid (NR.result HN.out HPB.out hW9); clear hW9))
      refine bodyPost_ret (results_cell_row (P := Tryd.prog) rfl _ _ R 65 _ (0, 0) _ rfl HW9.out.1 Tryd.underlying65 rfl infoT) rfl ?_
      exact ⟨A, capA, rfl, HU4.out, HW9.out.2.1, HW9.out.2.2⟩
end Go.Proofs.YtnjjblcigcblhaaDoor
