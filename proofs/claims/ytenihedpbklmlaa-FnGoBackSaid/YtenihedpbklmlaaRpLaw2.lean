/-
  The law of going back, walked: it returns true for every list of bytes. Condition: bytes that can be read.
-/
import Derived.Test.YtenihedpbklmlaaRpLaw1
namespace Go.Proofs.Ytenihedpbklmlaa
open Go.RowKit

theorem take_mem {L : List Int} {k : Nat} {x : Int} (hk : k < L.length) : (x ∈ L.take (k + 1)) ↔ (x ∈ L.take k ∨ x = el L k) := by
  rw [take_el hk, List.mem_append, List.mem_singleton]
theorem el_last {P L : List Int} {x : Int} (h : L = P ++ [x]) : el L (L.length - 1) = x ∧ 0 < L.length := by
  subst h
  simp [el]
/-- What a list of transmissions with the window 1 tells. -/
theorem one_case (N : Nat) (ls : List Bool) : (gbO N 1 (bt ls)).isSome = false ∧ (optL (gbO N 1 (bt ls))).length = 0 ∨ (gbO N 1 (bt ls)).isSome = true ∧ (optL (gbO N 1 (bt ls))).length = N + gone (bt ls) 0 (optL (gbO N 1 (bt ls))).length := by
  cases h : gbO N 1 (bt ls) with
  | none => exact .inl ⟨rfl, rfl⟩
  | some L =>
    obtain ⟨N', V, e1, e2, _, _, _, _, hr⟩ := gbO_case h
    obtain rfl : N = N' := by omega
    obtain rfl : V = 1 := by omega
    have := gbRun_one hr (Nat.zero_le _)
    exact .inr ⟨rfl, by show L.length = _; simpa [optL] using this⟩
set_option maxRecDepth 100000 in
set_option maxHeartbeats 8000000 in
theorem walkGoBack (a : Option Addr) (c : Nat) (ds : List Int) (w : World) (hx : Ints .u8 w w.heap.size a ds) (hw : ∀ n ∈ ds, (Lit.int .u8 n).wf = true) (hc : ds.length ≤ c) (hcm : c ≤ maxLen) :
    Calls Try.prog 7 #[.slice a ds.length c] w fun e w' => e = .returned (.bool true) ∧ Below w.heap.size w w' := by
  have hb := isByte_of_wf hw
  clear hw
  by_cases hl : ds.length ≤ 1048576
  · go_enter Try.func7, Try.ntmps7
    go_wp2_with fail
    refine (drawGoBack_any a c ds w hx hb hc hcm).mono ?_
    rintro e w1 ⟨n, v, ls, al, cl, rfl, hls, bls, bl⟩
    have B1 := Lib.hid bl
    have L1 := Lib.hid bls
    have HLS := Lib.hid hls
    clear hx hb hc hcm bl hl bls hls
    obtain ⟨o, ho⟩ : ∃ o, gbO n v (bt ls) = o := ⟨_, rfl⟩
    obtain ⟨X, hX⟩ : ∃ X, X = optL o := ⟨_, rfl⟩
    obtain ⟨b, hbb⟩ : ∃ b, b = o.isSome := ⟨_, rfl⟩
    have hol : X.length ≤ 330 := by rw [hX, ← ho]; exact gbO_len
    have HXb := Lib.hid (And.intro hX hbb)
    have HO := Lib.hid ho
    have z1 : decide (X = X) = true := by simp
    have z2 : (b != b) = false := by simp
    clear ho hX hbb
    go_wp2_with fail
    refine (goBack_any n v al cl ls w1 L1.out).mono ?_
    unfold OptP
    rw [HO.out, ← HXb.out.1, ← HXb.out.2]
    intro e w2 h2
    obtain ⟨g2, cg2, rfl, i2, b2⟩ := pair_ints h2
    have G2 := Lib.hid i2
    have L2 := Lib.hid (L1.out.next b2)
    have B2 := Lib.hid (Below.next B1.out (Nat.le_refl _) b2)
    clear h2 i2 b2 B1 L1
    go_wp2_with fail
    refine (specGoBack_any n v al cl ls w2 L2.out).mono ?_
    unfold OptP
    rw [HO.out, ← HXb.out.1, ← HXb.out.2]
    intro e w3 h3
    obtain ⟨g3, cg3, rfl, i3, b3⟩ := pair_ints h3
    have G3 := Lib.hid i3
    have G2' := Lib.hid (G2.out.next b3)
    have L3 := Lib.hid (L2.out.next b3)
    have B3 := Lib.hid (Below.next B2.out (Nat.le_refl _) b3)
    clear h3 i3 b3 B2 G2 L2
    go_wp2_with fail
    refine (sameInts_any g2 g3 cg2 cg3 w3.heap.size w3.heap.size X X w3 G2'.out G3.out (by omega)).mono ?_
    rintro e w4 ⟨rfl, n4, rfl⟩
    have B4 := Lib.hid (below_drewN B3.out n4)
    have G4 := Lib.hid (G2'.out.drewN n4)
    have L4 := Lib.hid (L3.out.drewN n4)
    clear B3 G2' G3 L3
    generalize hw4 : w3.drewN n4 = w4 at B4 ⊢
    have hs4 : w3.heap.size = w4.heap.size := by rw [← hw4]; rfl
    rw [hw4, hs4] at G4 L4
    clear hw4 hs4
    have HAL := Lib.hid (aliveA_fromR B4.out)
    obtain ⟨m, hm⟩ : ∃ m, m = X.length := ⟨_, rfl⟩
    rw [← hm] at hol ⊢
    have HM := Lib.hid hm
    clear hm
    cases o with
    | none =>
      obtain rfl : b = false := HXb.out.2
      obtain rfl : m = 0 := by rw [HM.out, HXb.out.1]; rfl
      clear z2
      go_wp2_with (go_at_call 17; (with_reducible refine HAL.out.mono ?_); rintro e w5 ⟨rfl, h5⟩)
      go_ret
      exact ⟨rfl, h5⟩
    | some L =>
      obtain rfl : b = true := HXb.out.2
      obtain rfl : X = L := HXb.out.1
      obtain ⟨N, V, rfl, rfl, hN, hV1, hV8, hok, hr⟩ := gbO_case HO.out
      obtain ⟨hmem, hall⟩ := gbRun_mem hr
      by_cases hN0 : N = 0
      · obtain rfl : m = 0 := by
          rw [HM.out, List.length_eq_zero_iff]
          cases X with
          | nil => rfl
          | cons x xs => have := hmem x (by simp); omega
        have z3 : ((N : Int) == 0) = true := by simp [hN0]
        clear z2 hN0 hmem hall hr hok
        go_wp2_with (go_at_call 17; (with_reducible refine HAL.out.mono ?_); rintro e w5 ⟨rfl, h5⟩)
        go_ret
        exact ⟨rfl, h5⟩
      · have z3 : ((N : Int) == 0) = false := by rw [beq_eq_false_iff_ne]; omega
        have hN0' : ¬ (N : Int) = 0 := by omega
        have HMem := Lib.hid (fun k (hk : k < m) => show ∃ q : Nat, el X k = (q : Int) ∧ q < N from by
          have := hmem (el X k) (el_mem (by rw [← HM.out]; exact hk))
          exact ⟨(el X k).toNat, by omega, by omega⟩)
        have HAll := Lib.hid (fun k (hk : k < N) => show decide ((k : Int) ∈ X.take m) = true by
          rw [HM.out, List.take_length]; exact decide_eq_true (hall k (Nat.zero_le _) hk))
        obtain ⟨P, hP⟩ := gbRun_last hV1 hr (by omega)
        obtain ⟨hla, hlp⟩ := el_last hP
        have HLast := Lib.hid hla
        have hmp : 0 < m := by rw [HM.out]; exact hlp
        have HOK := Lib.hid hok
        have HNp := Lib.hid (show 0 < N by omega)
        have HOne := Lib.hid (one_case N ls)
        have hmk := makeB N (by omega)
        have HR0 := Lib.hid ((World.rowIs_made w4 (.bool false) N 4).congr (g := fun j => .bool (decide ((j : Int) ∈ X.take 0))) fun i _ => by simp)
        have HB0 := Lib.hid (alloc_belowX w4 (.cells (madeCells #[.bool false] N) 4))
        clear z2 hN0 hmem hall hr hok hP hla hlp
        go_wp2
        clear hmk z3 hN0'
        generalize w4.alloc (.cells (madeCells #[.bool false] N) 4) = u1 at HR0 HB0 ⊢
        generalize hsb : w4.heap.size = sb at HR0 ⊢
        have HSB := Lib.hid hsb
        clear hsb
        go_loopw [11] (fun i wr => ∃ k : Nat, k ≤ m ∧ i = .int .i64 (k : Int) ∧ wr.rowIs sb 4 N (fun j => .bool (decide ((j : Int) ∈ X.take k))) ∧ Below w4.heap.size w4 wr) (fun i _ => m - (intOf i).toNat)
        case atStart => exact ⟨0, Nat.zero_le _, rfl, HR0.out, HB0.out⟩
        case round =>
          obtain ⟨k, hk, rfl, hrow, hbl⟩ := hrel
          have HR := Lib.hid hrow
          have HB := Lib.hid hbl
          clear hrow hbl HR0 HB0
          by_cases hlt : k < m
          · obtain ⟨q, hq, hqN⟩ := HMem.out k hlt
            obtain ⟨bb, off, e1, hb', hc'⟩ := (G4.out.below HB.out).at_ (i := k) (by rw [← HM.out]; exact hlt)
            subst e1
            rw [hq] at hc'
            have hq0 : ¬ (q : Int) < 0 := by omega
            have hqn : ¬ (N : Int) ≤ (q : Int) := by omega
            have hqI : (q : Int) < (N : Int) := by omega
            have ck := World.rowIs.cell HR.out hqN
            have fk := World.rowIs.frozen HR.out q
            have HS := Lib.hid ((World.rowIs.set HR.out q (.bool true)).congr (g := fun j => .bool (decide ((j : Int) ∈ X.take (k + 1)))) fun i _ => by
              have h9 := take_mem (L := X) (k := k) (x := (i : Int)) (by rw [← HM.out]; exact hlt)
              rw [hq] at h9
              by_cases e : i = q
              · subst e; rw [if_pos rfl, decide_eq_true (h9.2 (.inr rfl))]
              · rw [if_neg e]
                congr 1
                rw [decide_eq_decide, h9]
                constructor
                · exact .inl
                · rintro (h | h)
                  · exact h
                  · exact absurd (by omega) e)
            have HB2 := Lib.hid (HB.out.setCell (p := ⟨sb, q, none⟩) (by rw [HSB.out]; exact Nat.le_refl _) (.bool true))
            clear hq
            go_wp2
            go_roundw
            case rel => exact ⟨k + 1, by omega, by go_num, HS.out, HB2.out⟩
            case measure => simp [intOf]; omega
          · obtain rfl : m = k := by omega
            have hsz4 : w4.heap.size ≤ wr.heap.size := HB.out.size
            have HGe := Lib.hid (G4.out.next HB.out)
            have HLe := Lib.hid (L4.out.next HB.out)
            have HBe := Lib.hid (Below.next B4.out (Nat.le_refl _) HB.out)
            clear G4 L4 B4 HAL
            generalize wr = wz at HR HGe HLe HBe ⊢
            go_wp2
            go_loop [12] (fun i => ∃ k : Nat, k ≤ N ∧ i = .int .i64 (k : Int)) (fun i => N - (intOf i).toNat)
            case atStart => exact ⟨0, Nat.zero_le _, rfl⟩
            case round =>
              obtain ⟨j, hj, rfl⟩ := hrel
              by_cases hjN : j < N
              · have ck := World.rowIs.cell HR.out hjN
                rw [HAll.out j hjN] at ck
                have hjI : (j : Int) < (N : Int) := by omega
                go_wp2
                go_round
                case rel => exact ⟨j + 1, by omega, by go_num⟩
                case measure => simp [intOf]; omega
              · obtain rfl : N = j := by omega
                obtain ⟨hcl, _⟩ := gb_sr_clean (lost := bt []) bt_nil HOK.out
                have HCl := Lib.hid hcl
                have HUl := Lib.hid (show (up 0 (Int.toNat (N : Int))).length = N by rw [up_len, Int.toNat_natCast])
                clear hcl
                go_wp2_with fail
                refine (goBack_any (N : Int) (V : Int) none 0 [] wz Bls.nil).mono ?_
                unfold OptP
                rw [HCl.out]
                intro e w5 h5
                obtain ⟨g5, cg5, rfl, i5, b5⟩ := pair_ints h5
                have G5 := Lib.hid (HGe.out.next b5)
                have L5 := Lib.hid (HLe.out.next b5)
                have B5 := Lib.hid (Below.next HBe.out (Nat.le_refl _) b5)
                clear h5 i5 b5
                rw [show (optL (some (up 0 (Int.toNat (N : Int))))).length = N from HUl.out]
                go_wp2_with fail
                refine (goBack_any (N : Int) 1 al cl ls w5 L5.out).mono ?_
                unfold OptP
                obtain ⟨o1, ho1⟩ : ∃ o1, gbO (N : Int) 1 (bt ls) = o1 := ⟨_, rfl⟩
                have hl1 : (optL o1).length ≤ 330 := by rw [← ho1]; exact gbO_len
                rw [ho1] at HOne ⊢
                intro e w6 h6
                obtain ⟨g6, cg6, rfl, i6, b6⟩ := pair_ints h6
                have G6 := Lib.hid (G5.out.next b6)
                have L6 := Lib.hid (L5.out.next b6)
                have B6 := Lib.hid (Below.next B5.out (Nat.le_refl _) b6)
                clear h6 i6 b6 G5 L5 B5 ho1
                generalize (optL o1).length = m1 at HOne hl1 ⊢
                generalize o1.isSome = b1 at HOne ⊢
                go_wp2
                go_loop [17, 18] (fun g i => ∃ k q : Nat, k ≤ m1 ∧ i = .int .i64 (k : Int) ∧ g = .int .i64 (q : Int) ∧ q = gone (bt ls) 0 k) (fun _ i => m1 - (intOf i).toNat)
                case atStart => exact ⟨0, 0, Nat.zero_le _, rfl, rfl, rfl⟩
                case round =>
                  obtain ⟨k, q, hk1, rfl, rfl, hq⟩ := hrel
                  have hqk : q ≤ k := by rw [hq]; exact gone_le _ _
                  have HQ := Lib.hid hq
                  have HGn := Lib.hid (gone_next (bt ls) k)
                  rw [← hq] at HGn
                  clear hq
                  by_cases hkm : k < m1
                  · have hkmI : (k : Int) < (m1 : Int) := by omega
                    by_cases hkl : k < ls.length
                    · have hklI : (k : Int) < (ls.length : Int) := by omega
                      obtain ⟨bb, off, e1, hb', hc'⟩ := L6.out.at_ hkl
                      subst e1
                      cases hbt : bt ls k
                      · rw [hbt] at hc' HGn
                        clear hbt
                        go_wp2
                        go_round
                        case rel => exact ⟨k + 1, q, by omega, by go_num, rfl, by rw [HGn.out]; simp⟩
                        case measure => simp [intOf]; omega
                      · rw [hbt] at hc' HGn
                        clear hbt
                        go_wp2
                        go_round
                        case rel => exact ⟨k + 1, q + 1, by omega, by go_num, by go_num, by rw [HGn.out]; simp⟩
                        case measure => simp [intOf]; omega
                    · have hklI : ¬ (k : Int) < (ls.length : Int) := by omega
                      have HSt := Lib.hid (gone_stop (ls := ls) hk1 (fun h => hkl h.2))
                      rw [← HQ.out] at HSt
                      obtain ⟨p, hp⟩ : ∃ p, m = p + 1 := ⟨m - 1, by omega⟩
                      obtain ⟨M, hMN⟩ : ∃ M, N = M + 1 := ⟨N - 1, by have := HNp.out; omega⟩
                      have hel : el X p = (M : Int) := by
                        have h9 := HLast.out
                        rw [← HM.out, show m - 1 = p by omega, show N - 1 = M by omega] at h9
                        exact h9
                      obtain ⟨bb, off, e0, hb', hc'⟩ := G6.out.at_ (i := p) (by rw [← HM.out]; omega)
                      subst e0
                      rw [hel] at hc'
                      have e1 : (m : Int) - 1 = (p : Int) := by omega
                      have e2 : (N : Int) - 1 = (M : Int) := by omega
                      have hpm : p < m := by omega
                      have hpmI : (p : Int) < (m : Int) := by omega
                      have w1 : -1000000000000 ≤ (p : Int) ∧ (p : Int) ≤ 1000000000000 := by omega
                      have w2 : -1000000000000 ≤ (M : Int) ∧ (M : Int) ≤ 1000000000000 := by omega
                      have w3 : -1000000000000 ≤ (m1 : Int) ∧ (m1 : Int) ≤ 1000000000000 := by omega
                      rcases HOne.out with ⟨rfl, h0⟩ | ⟨rfl, h1⟩
                      · have r1 := wrapW w1
                        have r1' := wrapW' w1
                        have r2 := wrapW w2
                        have r2' := wrapW' w2
                        clear hp hMN hel h0 w1 w2 w3
                        go_wp2
                        go_ret
                        exact ⟨ret_bool (by simp), B6.out⟩
                      · have e3 : (N : Int) + (q : Int) = (m1 : Int) := by
                            have h7 : m1 = N + gone (bt ls) 0 m1 := h1
                            have h8 : q = gone (bt ls) 0 m1 := HSt.out
                            rw [← h8] at h7
                            omega
                        have r1 := wrapW w1
                        have r1' := wrapW' w1
                        have r2 := wrapW w2
                        have r2' := wrapW' w2
                        have r3 := wrapW w3
                        have r3' := wrapW' w3
                        clear hp hMN hel h1 w1 w2 w3
                        go_wp2
                        go_ret
                        exact ⟨ret_bool (by simp), B6.out⟩
                  · have hkmI : ¬ (k : Int) < (m1 : Int) := by omega
                    have HSt := Lib.hid (gone_stop (ls := ls) hk1 (fun h => hkm h.1))
                    rw [← HQ.out] at HSt
                    obtain ⟨p, hp⟩ : ∃ p, m = p + 1 := ⟨m - 1, by omega⟩
                    obtain ⟨M, hMN⟩ : ∃ M, N = M + 1 := ⟨N - 1, by have := HNp.out; omega⟩
                    have hel : el X p = (M : Int) := by
                      have h9 := HLast.out
                      rw [← HM.out, show m - 1 = p by omega, show N - 1 = M by omega] at h9
                      exact h9
                    obtain ⟨bb, off, e0, hb', hc'⟩ := G6.out.at_ (i := p) (by rw [← HM.out]; omega)
                    subst e0
                    rw [hel] at hc'
                    have e1 : (m : Int) - 1 = (p : Int) := by omega
                    have e2 : (N : Int) - 1 = (M : Int) := by omega
                    have hpm : p < m := by omega
                    have hpmI : (p : Int) < (m : Int) := by omega
                    have w1 : -1000000000000 ≤ (p : Int) ∧ (p : Int) ≤ 1000000000000 := by omega
                    have w2 : -1000000000000 ≤ (M : Int) ∧ (M : Int) ≤ 1000000000000 := by omega
                    have w3 : -1000000000000 ≤ (m1 : Int) ∧ (m1 : Int) ≤ 1000000000000 := by omega
                    rcases HOne.out with ⟨rfl, h0⟩ | ⟨rfl, h1⟩
                    · have r1 := wrapW w1
                      have r1' := wrapW' w1
                      have r2 := wrapW w2
                      have r2' := wrapW' w2
                      clear hp hMN hel h0 w1 w2 w3
                      go_wp2
                      go_ret
                      exact ⟨ret_bool (by simp), B6.out⟩
                    · have e3 : (N : Int) + (q : Int) = (m1 : Int) := by
                            have h7 : m1 = N + gone (bt ls) 0 m1 := h1
                            have h8 : q = gone (bt ls) 0 m1 := HSt.out
                            rw [← h8] at h7
                            omega
                      have r1 := wrapW w1
                      have r1' := wrapW' w1
                      have r2 := wrapW w2
                      have r2' := wrapW' w2
                      have r3 := wrapW w3
                      have r3' := wrapW' w3
                      clear hp hMN hel h1 w1 w2 w3
                      go_wp2
                      go_ret
                      exact ⟨ret_bool (by simp), B6.out⟩
  · go_enter Try.func7, Try.ntmps7
    have hl' : (1048576 : Int) < (ds.length : Int) := by omega
    go_wp2
    go_ret
    exact ⟨rfl, Below.refl _ _⟩
end Go.Proofs.Ytenihedpbklmlaa
