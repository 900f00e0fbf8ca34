/-
  The law of LinksMeet, walked: it returns true for every code, and writes into nothing that was there. No condition.
-/
import Derived.Test.YtlgcacoggikfcaaPwDraw7
import Derived.Test.YtlgcacoggikfcaaPwLaw1
namespace Go.Proofs.Ytlgcacoggikfcaa
open Go.RowKit

set_option maxHeartbeats 4000000 in
theorem walkLinksMeet (a : Option Addr) (c : Nat) (ds : List Int) (w : World) (hx : Ints .u8 w w.heap.size a ds) (hw : ∀ n ∈ ds, (Lit.int .u8 n).wf = true) (hc : ds.length ≤ c) (hcm : c ≤ maxLen) :
    Calls Try.prog 4 #[.slice a ds.length c] w fun e w' => e = .returned (.bool true) ∧ Below w.heap.size w w' := by
  have hb := isByte_of_wf hw
  clear hw
  by_cases hl : ds.length ≤ 1048576
  · go_enter Try.func4, Try.ntmps4
    go_wp2_with fail
    refine (drawLinksMeet_any a c ds w hx hb hc hcm).mono ?_
    rintro e w1 ⟨ga, gc, N, T, R, pv, pc, P, rfl, hq, _, hp, bl⟩
    have hal := alloc_belowX w1 (.cells #[.slice ga R.length gc, .int .i64 N, .int .i64 T] 25)
    have X1 := Lib.hid (lkVar_new w1 (.slice ga R.length gc) (.int .i64 N) (.int .i64 T))
    have Q1 := Lib.hid (RowsL.next hq hal)
    have P1 := Lib.hid (hp.next hal)
    have B1 := Lib.hid (Below.next bl (Nat.le_refl _) hal)
    clear hx hb hc hcm hq hp bl hal
    obtain ⟨M, hM⟩ : ∃ M, decide (MtOk R N T P) = M := ⟨_, rfl⟩
    have HM := Lib.hid hM
    have zm : (M != M) = false := by simp
    have hi := linksMeet_any ga pv gc pc R N T P _ Q1.out P1.out
    rw [hM] at hi
    have HI := Lib.hid hi
    clear hM hi
    obtain ⟨b3, hb3⟩ : ∃ b3, b3 = w1.heap.size := ⟨_, rfl⟩
    go_wp2_with fail
    generalize w1.alloc (.cells #[.slice ga R.length gc, .int .i64 N, .int .i64 T] 25) = wa at *
    rw [← hb3] at X1 ⊢
    clear hb3
    refine HI.out.mono ?_
    rintro e w2 ⟨rfl, g2⟩
    have X2 := Lib.hid (X1.out.next g2)
    have Q2 := Lib.hid (Q1.out.next g2)
    have P2 := Lib.hid (P1.out.next g2)
    have B2 := Lib.hid (Below.next B1.out (Nat.le_refl _) g2)
    clear g2 X1 Q1 P1 B1 HI
    have hj := specLinksMeet_any ga pv gc pc R N T P w2 Q2.out P2.out
    rw [HM.out] at hj
    have HJ := Lib.hid hj
    clear hj
    have vg := X2.out.g
    have vn := X2.out.n
    have vt := X2.out.t
    go_wp2_with fail
    refine HJ.out.mono ?_
    rintro e w3 ⟨rfl, g3⟩
    have X3 := Lib.hid (X2.out.next g3)
    have Q3 := Lib.hid (Q2.out.next g3)
    have P3 := Lib.hid (P2.out.next g3)
    have B3 := Lib.hid (Below.next B2.out (Nat.le_refl _) g3)
    clear g3 X2 Q2 P2 B2 HJ vg vn vt
    cases M
    · have HAL := Lib.hid (aliveP_from B3.out)
      go_wp2_with fail
      refine HAL.out.mono ?_
      rintro e w5 ⟨rfl, b5⟩
      go_wp2
      go_ret
      exact ⟨rfl, b5⟩
    · have hm := of_decide_eq_true HM.out
      have HMt := Lib.hid hm
      have hp5 : P.length ≤ 5 := by rw [hm.2.1.1]; exact hm.1.1.2
      have hT := hm.1.2.2.1
      have hps := powerStep_any ga pv gc pc R N T P w3 Q3.out P3.out
      have hlen : (stL R N T P).length = P.length := by rw [stL_length]; exact hm.2.1.1.symm
      rw [stOr_yes hm.1 hm.2.1] at hps
      have HPs := Lib.hid hps
      have HLen := Lib.hid hlen
      have HLe := Lib.hid (fun k (hk : k < P.length) => show el (stL R N T P) k ≤ el P k by
        rw [stL_el (by rw [← hm.2.1.1]; exact hk)]
        exact meet_step hm (by rw [← hm.2.1.1]; exact hk))
      have vg := X3.out.g
      have vn := X3.out.n
      have vt := X3.out.t
      clear hm hps hlen
      go_wp2_with fail
      refine HPs.out.mono ?_
      rintro e w4 ⟨v4, c4, rfl, _, o4, g4⟩
      have U4 := Lib.hid (OwnInts.ints9 o4)
      have X4 := Lib.hid (X3.out.next g4)
      have Q4 := Lib.hid (Q3.out.next g4)
      have P4 := Lib.hid (P3.out.next g4)
      have B4 := Lib.hid (Below.next B3.out (Nat.le_refl _) g4)
      clear o4 g4 X3 Q3 P3 B3 HPs vg vn vt
      rw [HLen.out]
      go_wp2_with fail
      go_loopw [7] (fun x wr => ∃ k q : Nat, k ≤ P.length ∧ x = .int .i64 k ∧ wr = w4.drewN q) (fun x _ => P.length - (intOf x).toNat)
      case atStart => exact ⟨0, 0, Nat.zero_le _, rfl, rfl⟩
      case round =>
        obtain ⟨k, q, hk, rfl, rfl⟩ := hrel
        by_cases hkl : k < P.length
        · obtain ⟨b1, o1, rfl, _, hc1⟩ := U4.out.at_ (i := k) (by rw [HLen.out]; exact hkl)
          obtain ⟨b2, o2, rfl, _, hc2⟩ := P4.out.at_ (i := k) hkl
          have h1 := HLe.out k hkl
          generalize el (stL R N T P) k = u at *
          generalize el P k = s at *
          have h3 : ¬ s < u := by omega
          clear h1
          go_wp2
          go_quiet (fail)
          go_wp2
          go_roundw
          case rel => exact ⟨k + 1, _, by omega, by go_num, rfl⟩
          case measure => simp [intOf]; omega
        · obtain rfl : P.length = k := by omega
          have P5 : Hid (Ints .i64 (w4.drewN q) (w4.drewN q).heap.size pv P) := Lib.hid (P4.out.drewN q)
          have Q5 : Hid (RowsL (w4.drewN q) (w4.drewN q).heap.size ga R) := Lib.hid (Q4.out.drewN q)
          have X5 := Lib.hid (X4.out.drewN q)
          have B5 := Lib.hid (below_drewN B4.out q)
          clear P4 Q4 X4 B4 U4
          generalize w4.drewN q = w5 at *
          have vg := X5.out.g
          have vn := X5.out.n
          have vt := X5.out.t
          have lt3 := X5.out.lt
          have r1 := wrapS (n := T - 1) (by omega)
          have r1' := wrapS' (n := T - 1) (by omega)
          by_cases hT1 : 1 < T - 1
          · have hal := alloc_belowX w5 (.cells #[.slice ga R.length gc, .int .i64 N, .int .i64 (T - 1)] 25)
            have hlm := linksMeet_any ga pv gc pc R N (T - 1) P _ (Q5.out.next hal) (P5.out.next hal)
            rw [decide_eq_true (meet_lower HMt.out (T' := T - 1) (by omega) (by omega))] at hlm
            have HLm := Lib.hid hlm
            have B6 := Lib.hid (Below.next B5.out (Nat.le_refl _) hal)
            clear hlm hal
            go_wp2_with fail
            refine HLm.out.mono ?_
            rintro e w9 ⟨rfl, b9⟩
            go_wp2
            go_ret
            exact ⟨rfl, Below.next B6.out (Nat.le_refl _) b9⟩
          · have hal := alloc_belowX w5 (.cells #[.slice ga R.length gc, .int .i64 N, .int .i64 1] 25)
            have hlm := linksMeet_any ga pv gc pc R N 1 P _ (Q5.out.next hal) (P5.out.next hal)
            rw [decide_eq_true (meet_lower HMt.out (T' := 1) (by omega) (by omega))] at hlm
            have HLm := Lib.hid hlm
            have B6 := Lib.hid (Below.next B5.out (Nat.le_refl _) hal)
            clear hlm hal
            go_wp2_with fail
            refine HLm.out.mono ?_
            rintro e w9 ⟨rfl, b9⟩
            go_wp2
            go_ret
            exact ⟨rfl, Below.next B6.out (Nat.le_refl _) b9⟩
  · go_enter Try.func4, Try.ntmps4
    go_wp2
    go_ret
    exact ⟨rfl, Below.refl _ _⟩
end Go.Proofs.Ytlgcacoggikfcaa
