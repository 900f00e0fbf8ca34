/-
  The law of stop and wait, walked: it returns true for every list of bytes. Condition: bytes that can be read.
-/
import Derived.Test.YtenihedpbklmlaaRpLaw1
namespace Go.Proofs.Ytenihedpbklmlaa
open Go.RowKit

theorem sw_end {N : Nat} {lost un : Nat → Bool} : ∀ M, N ≤ swK lost un M → ∃ T, T ≤ M ∧ swK lost un T = N ∧ ∀ u, u < T → swK lost un u < N
  | 0, h => ⟨0, Nat.le_refl _, by have : swK lost un 0 = 0 := rfl; omega, fun u hu => absurd hu (Nat.not_lt_zero _)⟩
  | M + 1, h => by
    by_cases h2 : N ≤ swK lost un M
    · obtain ⟨T, h3, h4, h5⟩ := sw_end M h2
      exact ⟨T, by omega, h4, h5⟩
    · have h3 := swK_step lost un M
      refine ⟨M + 1, Nat.le_refl _, by omega, fun u hu => ?_⟩
      have h4 := swK_mono lost un u (M - u)
      rw [show u + (M - u) = M by omega] at h4
      omega
theorem swSum_le {lost un : Nat → Bool} {t : Nat} (ht : t ≤ 300) : ∀ n, swSum lost un t n ≤ 300 * n
  | 0 => Nat.le_refl _
  | n + 1 => by
    have h1 := swSum_le (lost := lost) (un := un) ht n
    have h2 := swC_le lost un t n
    show swSum lost un t n + swC lost un t n ≤ 300 * (n + 1)
    omega
theorem swSum_next (lost un : Nat → Bool) (t n : Nat) : swSum lost un t (n + 1) = swSum lost un t n + swC lost un t n := rfl
/-- The three ways of StopAndWait. -/
theorem sw_case (n : Int) (ls us : List Bool) : (swL n (bt ls) (bt us) = [] ∧ swM n (bt ls) (bt us) = 0 ∧ n ≠ 0) ∨ ∃ N T : Nat, n = (N : Int) ∧ N ≤ 30 ∧ T ≤ 300 ∧ swL n (bt ls) (bt us) = fnLs (fun j => (swC (bt ls) (bt us) T j : Int)) N ∧ swM n (bt ls) (bt us) = (T : Int) ∧ swK (bt ls) (bt us) T = N ∧ ∀ u, u < T → swK (bt ls) (bt us) u < N := by
  cases h : swB n (bt ls) (bt us)
  · obtain ⟨h1, h2⟩ := swL_no h
    refine .inl ⟨h1, h2, fun e => ?_⟩
    subst e
    unfold swB at h
    simp [rpIn] at h
  · obtain ⟨h1, h2⟩ : rpIn n = true ∧ n.toNat ≤ swK (bt ls) (bt us) 300 := by simpa [swB] using h
    obtain ⟨N, rfl, hN⟩ := rpIn_nat h1
    rw [Int.toNat_natCast] at h2
    obtain ⟨T, h3, h4, h5⟩ := sw_end 300 h2
    have h6 : swT N (bt ls) (bt us) 300 = T := swT_first h5 h4 h3
    obtain ⟨e1, e2⟩ := swL_yes h
    rw [h6] at e1 e2
    exact .inr ⟨N, T, rfl, hN, h3, e1, e2, h4, h5⟩
/-- Without lost confirmations every message arrives once. -/
theorem once_case (N : Nat) (ls : List Bool) : (swL (N : Int) (bt ls) (bt [])).length ≤ 30 ∧ ((swL (N : Int) (bt ls) (bt [])).length = N → ∀ k, k < N → el (swL (N : Int) (bt ls) (bt [])) k = 1) := by
  rcases sw_case (N : Int) ls [] with ⟨h1, _, h3⟩ | ⟨N', T, e, hN, hT, h1, _, h4, h5⟩
  · rw [h1]
    refine ⟨Nat.zero_le _, fun h k hk => ?_⟩
    simp at h; omega
  · obtain rfl : N = N' := by omega
    rw [h1, fnLs_len]
    refine ⟨hN, fun _ k hk => ?_⟩
    rw [fnLs_el hk, swC_once bt_nil, h4, if_pos hk]; rfl
set_option maxRecDepth 100000 in
set_option maxHeartbeats 8000000 in
theorem walkStopAndWait (a : Option Addr) (c : Nat) (ds : List Int) (w : World) (hx : Ints .u8 w w.heap.size a ds) (hw : ∀ n ∈ ds, (Lit.int .u8 n).wf = true) (hc : ds.length ≤ c) (hcm : c ≤ maxLen) :
    Calls Try.prog 6 #[.slice a ds.length c] w fun e w' => e = .returned (.bool true) ∧ Below w.heap.size w w' := by
  have hb := isByte_of_wf hw
  clear hw
  by_cases hl : ds.length ≤ 1048576
  · go_enter Try.func6, Try.ntmps6
    go_wp2_with fail
    refine (drawStopAndWait_any a c ds w hx hb hc hcm).mono ?_
    rintro e w1 ⟨n, ls, al, cl, us, au, cu, rfl, hls, hus, bls, bus, bl⟩
    have B1 := Lib.hid bl
    have L1 := Lib.hid bls
    have U1 := Lib.hid bus
    clear hx hb hc hcm bl hl bls bus hls hus
    obtain ⟨X, hX⟩ : ∃ X, X = swL n (bt ls) (bt us) := ⟨_, rfl⟩
    obtain ⟨T, hT⟩ : ∃ T, T = swM n (bt ls) (bt us) := ⟨_, rfl⟩
    have hcase := sw_case n ls us
    rw [← hX, ← hT] at hcase
    have hol : X.length ≤ 30 := by
      rcases hcase with ⟨h1, _, _⟩ | ⟨N, T, _, h2, _, h1, _⟩
      · rw [h1]; exact Nat.zero_le _
      · rw [h1, fnLs_len]; exact h2
    have HC := Lib.hid hcase
    have HXT := Lib.hid (And.intro hX hT)
    have z1 : decide (X = X) = true := by simp
    have z2 : (T != T) = false := by simp
    clear hcase hX hT
    go_wp2_with fail
    refine (stopAndWait_any n al au cl cu ls us w1 L1.out U1.out).mono ?_
    unfold StopP
    rw [← HXT.out.1, ← HXT.out.2]
    intro e w2 h2
    obtain ⟨g2, cg2, rfl, i2, b2⟩ := pair_ints h2
    have G2 := Lib.hid i2
    have L2 := Lib.hid (L1.out.next b2)
    have U2 := Lib.hid (U1.out.next b2)
    have B2 := Lib.hid (Below.next B1.out (Nat.le_refl _) b2)
    clear h2 i2 b2 B1 L1 U1
    go_wp2_with fail
    refine (specStopAndWait_any n al au cl cu ls us w2 L2.out U2.out).mono ?_
    unfold StopP
    rw [← HXT.out.1, ← HXT.out.2]
    intro e w3 h3
    obtain ⟨g3, cg3, rfl, i3, b3⟩ := pair_ints h3
    have G3 := Lib.hid i3
    have G2' := Lib.hid (G2.out.next b3)
    have L3 := Lib.hid (L2.out.next b3)
    have B3 := Lib.hid (Below.next B2.out (Nat.le_refl _) b3)
    clear h3 i3 b3 B2 G2 L2 U2
    go_wp2_with fail
    refine (sameInts_any g2 g3 cg2 cg3 w3.heap.size w3.heap.size X X w3 G2'.out G3.out (by omega)).mono ?_
    rintro e w4 ⟨rfl, n4, rfl⟩
    have B4 := Lib.hid (below_drewN B3.out n4)
    have G4 := Lib.hid (G2'.out.drewN n4)
    have L4 := Lib.hid (L3.out.drewN n4)
    clear B3 G2' G3 L3
    generalize hw4 : w3.drewN n4 = w4 at B4 ⊢
    have hs4 : w3.heap.size = w4.heap.size := by rw [← hw4]; rfl
    rw [hw4, hs4] at G4 L4
    clear hw4 hs4
    have HAL := Lib.hid (aliveA_fromR B4.out)
    obtain ⟨m, hm⟩ : ∃ m, m = X.length := ⟨_, rfl⟩
    rw [← hm] at hol ⊢
    have HM := Lib.hid hm
    clear hm
    rcases HC.out with ⟨e1, rfl, hn0⟩ | ⟨N, t, rfl, hN, ht, e1, rfl, hK, hlt0⟩
    · obtain rfl : m = 0 := by rw [HM.out, e1]; rfl
      have z3 : ((0 : Int) != n) = true := by simp; omega
      have z4 : ¬ (0 : Int) = n := by omega
      have z5 : ¬ n = 0 := hn0
      clear z2 e1 hn0
      go_wp2_with (go_at_call 17; (with_reducible refine HAL.out.mono ?_); rintro e w5 ⟨rfl, h5⟩)
      go_ret
      exact ⟨rfl, h5⟩
    · obtain rfl : m = N := by rw [HM.out, e1, fnLs_len]
      by_cases hN0 : m = 0
      · have ht0 : t = 0 := by
          rcases Nat.eq_zero_or_pos t with h | h
          · exact h
          · have := hlt0 0 h; omega
        subst hN0 ht0
        clear z2 e1 hK hlt0
        go_wp2_with (go_at_call 17; (with_reducible refine HAL.out.mono ?_); rintro e w5 ⟨rfl, h5⟩)
        go_ret
        exact ⟨rfl, h5⟩
      · have z3 : ((m : Int) == 0) = false := by rw [beq_eq_false_iff_ne]; omega
        have hN0' : ¬ (m : Int) = 0 := by omega
        have HEl := Lib.hid (fun k (hk : k < m) => show el X k = (swC (bt ls) (bt us) t k : Int) by rw [e1, fnLs_el hk])
        have HPos := Lib.hid (fun k (hk : k < m) => show 1 ≤ swC (bt ls) (bt us) t k from swC_pos (by rw [hK]; exact hk))
        have HSum := Lib.hid (swSum_all (lost := bt ls) (un := bt us) (n := m) (t := t) hlt0)
        obtain ⟨o1, o2⟩ := once_case m ls
        have HOn := Lib.hid o2
        clear z2 e1 hK hlt0 hN0 o2
        go_wp2
        clear z3 hN0'
        go_loop [10, 11] (fun g i => ∃ k q : Nat, k ≤ t ∧ i = .int .i64 (k : Int) ∧ g = .int .i64 (q : Int) ∧ q = gone (bt ls) 0 k) (fun _ i => t - (intOf i).toNat)
        case atStart => exact ⟨0, 0, Nat.zero_le _, rfl, rfl, rfl⟩
        case round =>
          obtain ⟨k, q, hk1, rfl, rfl, hq⟩ := hrel
          have hqk : q ≤ k := by rw [hq]; exact gone_le _ _
          have HQ := Lib.hid hq
          have HGn := Lib.hid (gone_next (bt ls) k)
          rw [← hq] at HGn
          clear hq
          by_cases hgo : k < t ∧ k < ls.length
          · have hkm := hgo.1
            have hkl := hgo.2
            have hkmI : (k : Int) < (t : Int) := by omega
            have hklI : (k : Int) < (ls.length : Int) := by omega
            obtain ⟨bb, off, e1, hb', hc'⟩ := L4.out.at_ hkl
            subst e1
            clear hgo
            cases hbt : bt ls k
            · rw [hbt] at hc' HGn
              clear hbt
              go_wp2
              go_round
              case rel => exact ⟨k + 1, q, by omega, by go_num, rfl, by rw [HGn.out]; simp⟩
              case measure => simp [intOf]; omega
            · rw [hbt] at hc' HGn
              clear hbt
              go_wp2
              go_round
              case rel => exact ⟨k + 1, q + 1, by omega, by go_num, by go_num, by rw [HGn.out]; simp⟩
              case measure => simp [intOf]; omega
          · have HSt := Lib.hid (gone_stop (ls := ls) hk1 hgo)
            rw [← HQ.out] at HSt
            have hq3 : q ≤ 300 := by omega
            have hor : ¬ (k : Int) < (t : Int) ∨ (k : Int) < (t : Int) ∧ ¬ (k : Int) < (ls.length : Int) := by omega
            have HQ0 := Lib.hid (show q + swSum (bt ls) (bt us) t 0 = q from rfl)
            clear hgo HQ HGn hqk
            rcases hor with h9 | ⟨h8, h9⟩
            · go_wp2_with fail
              refine (stopAndWait_any (m : Int) al none cl 0 ls [] w4 L4.out Bls.nil).mono ?_
              unfold StopP
              intro e w5 h5
              obtain ⟨g5, cg5, rfl, i5, b5⟩ := pair_ints h5
              have O5 := Lib.hid i5
              have G5 := Lib.hid (G4.out.next b5)
              have B5 := Lib.hid (Below.next B4.out (Nat.le_refl _) b5)
              clear h5 i5 b5
              obtain ⟨Y, hY⟩ : ∃ Y, Y = swL (m : Int) (bt ls) (bt []) := ⟨_, rfl⟩
              rw [← hY] at O5 HOn o1 ⊢
              generalize swM (m : Int) (bt ls) (bt []) = t1
              clear hY
              obtain ⟨m1, hm1⟩ : ∃ m1, m1 = Y.length := ⟨_, rfl⟩
              rw [← hm1] at o1 HOn ⊢
              have HM1 := Lib.hid hm1
              clear hm1
              go_wp2
              go_loop [10, 14] (fun g i => ∃ k s : Nat, k ≤ m ∧ i = .int .i64 (k : Int) ∧ g = .int .i64 (s : Int) ∧ s = q + swSum (bt ls) (bt us) t k) (fun _ i => m - (intOf i).toNat)
              case atStart => exact ⟨0, q, Nat.zero_le _, rfl, rfl, rfl⟩
              case round =>
                obtain ⟨k2, s, hk2, rfl, rfl, hs⟩ := hrel
                have hsb : s ≤ 10000 := by have := swSum_le (lost := bt ls) (un := bt us) ht k2; omega
                have HS := Lib.hid hs
                clear hs
                by_cases hkm2 : k2 < m
                · have hk2I : (k2 : Int) < (m : Int) := by omega
                  obtain ⟨b6, o6, e6, hb6, hc6⟩ := G5.out.at_ (i := k2) (by rw [← HM.out]; exact hkm2)
                  subst e6
                  rw [HEl.out k2 hkm2] at hc6
                  have hp1 := HPos.out k2 hkm2
                  have hp2 := swC_le (bt ls) (bt us) t k2
                  have HSN := Lib.hid (swSum_next (bt ls) (bt us) t k2)
                  obtain ⟨y, hy⟩ : ∃ y, y = swC (bt ls) (bt us) t k2 := ⟨_, rfl⟩
                  rw [← hy] at hc6 hp1 hp2 HSN
                  have hy1 : ¬ (y : Int) < 1 := by omega
                  clear hy
                  by_cases hmm : m1 = m
                  · have z7 : ((m1 : Int) == (m : Int)) = true := by simp [hmm]
                    obtain ⟨b7, o7, e7, hb7, hc7⟩ := O5.out.at_ (i := k2) (by rw [← HM1.out]; omega)
                    subst e7
                    rw [HOn.out hmm k2 hkm2] at hc7
                    have hk2m1 : (k2 : Int) < (m1 : Int) := by omega
                    have hk2m1' : k2 < m1 := by omega
                    clear hmm
                    go_wp2
                    go_round
                    case rel => exact ⟨k2 + 1, s + y, by omega, by go_num, by go_num, by rw [HSN.out, HS.out]; omega⟩
                    case measure => simp [intOf]; omega
                  · have z7 : ((m1 : Int) == (m : Int)) = false := by simp; omega
                    have z7' : ¬ (m1 : Int) = (m : Int) := by omega
                    clear hmm
                    go_wp2
                    go_round
                    case rel => exact ⟨k2 + 1, s + y, by omega, by go_num, by go_num, by rw [HSN.out, HS.out]; omega⟩
                    case measure => simp [intOf]; omega
                · obtain rfl : m = k2 := by omega
                  have hst : s = t := by have h8 := HSum.out; have h9 := HSt.out; have h10 := HS.out; omega
                  subst hst
                  go_wp2
                  go_ret
                  exact ⟨ret_bool (by simp), B5.out⟩
            · go_wp2_with fail
              refine (stopAndWait_any (m : Int) al none cl 0 ls [] w4 L4.out Bls.nil).mono ?_
              unfold StopP
              intro e w5 h5
              obtain ⟨g5, cg5, rfl, i5, b5⟩ := pair_ints h5
              have O5 := Lib.hid i5
              have G5 := Lib.hid (G4.out.next b5)
              have B5 := Lib.hid (Below.next B4.out (Nat.le_refl _) b5)
              clear h5 i5 b5
              obtain ⟨Y, hY⟩ : ∃ Y, Y = swL (m : Int) (bt ls) (bt []) := ⟨_, rfl⟩
              rw [← hY] at O5 HOn o1 ⊢
              generalize swM (m : Int) (bt ls) (bt []) = t1
              clear hY
              obtain ⟨m1, hm1⟩ : ∃ m1, m1 = Y.length := ⟨_, rfl⟩
              rw [← hm1] at o1 HOn ⊢
              have HM1 := Lib.hid hm1
              clear hm1
              go_wp2
              go_loop [10, 14] (fun g i => ∃ k s : Nat, k ≤ m ∧ i = .int .i64 (k : Int) ∧ g = .int .i64 (s : Int) ∧ s = q + swSum (bt ls) (bt us) t k) (fun _ i => m - (intOf i).toNat)
              case atStart => exact ⟨0, q, Nat.zero_le _, rfl, rfl, rfl⟩
              case round =>
                obtain ⟨k2, s, hk2, rfl, rfl, hs⟩ := hrel
                have hsb : s ≤ 10000 := by have := swSum_le (lost := bt ls) (un := bt us) ht k2; omega
                have HS := Lib.hid hs
                clear hs
                by_cases hkm2 : k2 < m
                · have hk2I : (k2 : Int) < (m : Int) := by omega
                  obtain ⟨b6, o6, e6, hb6, hc6⟩ := G5.out.at_ (i := k2) (by rw [← HM.out]; exact hkm2)
                  subst e6
                  rw [HEl.out k2 hkm2] at hc6
                  have hp1 := HPos.out k2 hkm2
                  have hp2 := swC_le (bt ls) (bt us) t k2
                  have HSN := Lib.hid (swSum_next (bt ls) (bt us) t k2)
                  obtain ⟨y, hy⟩ : ∃ y, y = swC (bt ls) (bt us) t k2 := ⟨_, rfl⟩
                  rw [← hy] at hc6 hp1 hp2 HSN
                  have hy1 : ¬ (y : Int) < 1 := by omega
                  clear hy
                  by_cases hmm : m1 = m
                  · have z7 : ((m1 : Int) == (m : Int)) = true := by simp [hmm]
                    obtain ⟨b7, o7, e7, hb7, hc7⟩ := O5.out.at_ (i := k2) (by rw [← HM1.out]; omega)
                    subst e7
                    rw [HOn.out hmm k2 hkm2] at hc7
                    have hk2m1 : (k2 : Int) < (m1 : Int) := by omega
                    have hk2m1' : k2 < m1 := by omega
                    clear hmm
                    go_wp2
                    go_round
                    case rel => exact ⟨k2 + 1, s + y, by omega, by go_num, by go_num, by rw [HSN.out, HS.out]; omega⟩
                    case measure => simp [intOf]; omega
                  · have z7 : ((m1 : Int) == (m : Int)) = false := by simp; omega
                    have z7' : ¬ (m1 : Int) = (m : Int) := by omega
                    clear hmm
                    go_wp2
                    go_round
                    case rel => exact ⟨k2 + 1, s + y, by omega, by go_num, by go_num, by rw [HSN.out, HS.out]; omega⟩
                    case measure => simp [intOf]; omega
                · obtain rfl : m = k2 := by omega
                  have hst : s = t := by have h8 := HSum.out; have h9 := HSt.out; have h10 := HS.out; omega
                  subst hst
                  go_wp2
                  go_ret
                  exact ⟨ret_bool (by simp), B5.out⟩
  · go_enter Try.func6, Try.ntmps6
    have hl' : (1048576 : Int) < (ds.length : Int) := by omega
    go_wp2
    go_ret
    exact ⟨rfl, Below.refl _ _⟩
end Go.Proofs.Ytenihedpbklmlaa
