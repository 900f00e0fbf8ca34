/-
  The law of PowerNoise, walked: it returns true for every code, and writes into nothing that was there. No condition.
-/
import Derived.Test.YtlgcacoggikfcaaPwDraw4
import Derived.Test.YtlgcacoggikfcaaPw8
namespace Go.Proofs.Ytlgcacoggikfcaa
open Go.RowKit

theorem aliveP_from {w W : World} (hB : Below w.heap.size w W) : Calls Try.prog 15 #[] W fun e w' => e = .returned (.bool true) ∧ Below w.heap.size w w' := (alive_any W).mono fun _ _ ⟨h1, h2⟩ => ⟨h1, Below.next hB (Nat.le_refl _) h2⟩
theorem lpPost_law {f : FuncId} {args : Array Value} {R : List (List Int)} {N T : Int} {S : List Int} {M : Bool} {w : World} (h : Calls Try.prog f args w (LpPost R N T w)) (hS : lpL R N T = S) (hM : decide (MtOk R N T S) = M) :
    Calls Try.prog f args w fun e w' => ∃ v c, e = .returned (.tuple #[.slice v S.length c, .bool M]) ∧ (S.length ≤ c ∧ c ≤ maxLen) ∧ OwnInts .i64 3 w' w.heap.size v S ∧ Below w.heap.size w w' := h.mono fun e w' => by
  rintro ⟨v, c, rfl, h1, h2, h3⟩
  subst hS hM
  exact ⟨v, c, rfl, h1, h2, h3⟩
theorem lpL_len (R : List (List Int)) (N T : Int) : (lpL R N T).length ≤ 5 := by
  by_cases h : LkOk R N T
  · rw [(lpL_ok h).1]; exact h.1.2
  · rw [lpL_no h]; exact Nat.zero_le _
set_option maxHeartbeats 4000000 in
theorem walkPowerNoise (a : Option Addr) (c : Nat) (ds : List Int) (w : World) (hx : Ints .u8 w w.heap.size a ds) (hw : ∀ n ∈ ds, (Lit.int .u8 n).wf = true) (hc : ds.length ≤ c) (hcm : c ≤ maxLen) :
    Calls Try.prog 7 #[.slice a ds.length c] w fun e w' => e = .returned (.bool true) ∧ Below w.heap.size w w' := by
  have hb := isByte_of_wf hw
  clear hw
  by_cases hl : ds.length ≤ 1048576
  · go_enter Try.func7, Try.ntmps7
    go_wp2_with fail
    refine (drawLeastPowers_any a c ds w hx hb hc hcm).mono ?_
    rintro e w1 ⟨ga, gc, N, T, R, rfl, hd, bl⟩
    have hal := alloc_belowX w1 (.cells #[.slice ga R.length gc, .int .i64 N, .int .i64 T] 25)
    have X1 := Lib.hid (lkVar_new w1 (.slice ga R.length gc) (.int .i64 N) (.int .i64 T))
    have Q1 := Lib.hid (hd.rows.next hal)
    have B1 := Lib.hid (Below.next bl (Nat.le_refl _) hal)
    clear hx hb hc hcm hd bl hal
    obtain ⟨S, hS⟩ : ∃ S, lpL R N T = S := ⟨_, rfl⟩
    obtain ⟨M, hM⟩ : ∃ M, decide (MtOk R N T S) = M := ⟨_, rfl⟩
    have HS := Lib.hid hS
    have HM := Lib.hid hM
    have hSl : S.length ≤ 5 := by rw [← hS]; exact lpL_len R N T
    have zs : decide (S = S) = true := by simp
    have HI := Lib.hid (lpPost_law (leastPowers_any ga gc R N T _ Q1.out) hS hM)
    clear hS hM
    obtain ⟨b3, hb3⟩ : ∃ b3, b3 = w1.heap.size := ⟨_, rfl⟩
    go_wp2_with fail
    generalize w1.alloc (.cells #[.slice ga R.length gc, .int .i64 N, .int .i64 T] 25) = wa at *
    rw [← hb3] at X1 ⊢
    clear hb3
    refine HI.out.mono ?_
    rintro e w2 ⟨v2, c2, rfl, _, o2, g2⟩
    have P2 := Lib.hid (OwnInts.ints9 o2)
    have X2 := Lib.hid (X1.out.next g2)
    have Q2 := Lib.hid (Q1.out.next g2)
    have B2 := Lib.hid (Below.next B1.out (Nat.le_refl _) g2)
    clear o2 g2 X1 Q1 B1 HI
    have HJ := Lib.hid (lpPost_law (specLeastPowers_any ga gc R N T w2 Q2.out) HS.out HM.out)
    have vg := X2.out.g
    have vn := X2.out.n
    have vt := X2.out.t
    go_wp2_with fail
    refine HJ.out.mono ?_
    rintro e w3 ⟨v3, c3, rfl, _, o3, g3⟩
    have U3 := Lib.hid (OwnInts.ints9 o3)
    have P3 := Lib.hid (P2.out.next g3)
    have X3 := Lib.hid (X2.out.next g3)
    have Q3 := Lib.hid (Q2.out.next g3)
    have B3 := Lib.hid (Below.next B2.out (Nat.le_refl _) g3)
    clear o3 g3 P2 X2 Q2 B2 HJ vg vn vt
    go_wp2_with fail
    refine (sameInts_any v2 v3 c2 c3 w3.heap.size w3.heap.size S S w3 P3.out U3.out (by omega)).mono ?_
    rintro e w4' ⟨rfl, n4, rfl⟩
    have P4 := Lib.hid (P3.out.drewN n4)
    have X4 := Lib.hid (X3.out.drewN n4)
    have Q4 := Lib.hid (Q3.out.drewN n4)
    have B4 := Lib.hid (below_drewN B3.out n4)
    have P4 : Hid (Ints .i64 (w3.drewN n4) (w3.drewN n4).heap.size v2 S) := P4
    have Q4 : Hid (RowsL (w3.drewN n4) (w3.drewN n4).heap.size ga R) := Q4
    clear P3 X3 Q3 B3 U3
    generalize w3.drewN n4 = w4 at *
    have HAL := Lib.hid (aliveP_from B4.out)
    have vg := X4.out.g
    have vn := X4.out.n
    have vt := X4.out.t
    cases M
    · go_wp2_with fail
      refine HAL.out.mono ?_
      rintro e w5 ⟨rfl, b5⟩
      go_wp2
      go_ret
      exact ⟨rfl, b5⟩
    · by_cases hN : N < 2
      · go_wp2_with fail
        refine HAL.out.mono ?_
        rintro e w5 ⟨rfl, b5⟩
        go_wp2
        go_ret
        exact ⟨rfl, b5⟩
      · have hMt := of_decide_eq_true HM.out
        have hok := hMt.1
        have hN2 := hok.2.1
        have hMt2 := meet_noise (N' := N - 1) hMt (by omega) (by omega)
        have hle := lpL_least hMt2
        obtain ⟨S', hS'⟩ : ∃ S', lpL R (N - 1) T = S' := ⟨_, rfl⟩
        rw [hS'] at hle
        have hlen : S.length = R.length := by rw [← HS.out]; exact (lpL_ok hok).1
        have hlen' : S'.length = S.length := by rw [hlen, ← hS']; exact (lpL_ok hMt2.1).1
        have HLe := Lib.hid (fun k (hk : k < S.length) => hle.2 k (by rw [← hlen]; exact hk))
        have HD' := Lib.hid (And.intro hS' (decide_eq_true hle.1))
        have HLen := Lib.hid hlen'
        have r1 := wrapS (n := N - 1) (by omega)
        have r1' := wrapS' (n := N - 1) (by omega)
        have hb5 := alloc_belowX w4 (.cells #[.slice ga R.length gc, .int .i64 (N - 1), .int .i64 T] 25)
        have P5 := Lib.hid (P4.out.next hb5)
        have Q5 := Lib.hid (Q4.out.next hb5)
        have B5 := Lib.hid (Below.next B4.out (Nat.le_refl _) hb5)
        have HK := Lib.hid (lpPost_law (leastPowers_any ga gc R (N - 1) T _ Q5.out) HD'.out.1 HD'.out.2)
        have lt3 := X4.out.lt
        clear hMt hok hN2 hMt2 hle hS' hlen hlen' hb5 HAL P4 Q4 B4 X4
        go_wp2_with fail
        generalize w4.alloc (.cells #[.slice ga R.length gc, .int .i64 (N - 1), .int .i64 T] 25) = w5 at *
        refine HK.out.mono ?_
        rintro e w6 ⟨v6, c6, rfl, _, o6, g6⟩
        have V6 := Lib.hid (OwnInts.ints9 o6)
        have P6 := Lib.hid (P5.out.next g6)
        have B6 := Lib.hid (Below.next B5.out (Nat.le_refl _) g6)
        clear o6 g6 HK P5 Q5 B5 r1 r1' vg vn vt
        rw [HLen.out]
        go_wp2_with fail
        go_loopw [11] (fun x wr => ∃ k q : Nat, k ≤ S.length ∧ x = .int .i64 k ∧ wr = w6.drewN q) (fun x _ => S.length - (intOf x).toNat)
        case atStart => exact ⟨0, 0, Nat.zero_le _, rfl, rfl⟩
        case round =>
          obtain ⟨k, q, hk, rfl, rfl⟩ := hrel
          by_cases hlt : k < S.length
          · obtain ⟨b1, o1, rfl, _, hc1⟩ := V6.out.at_ (i := k) (by rw [HLen.out]; exact hlt)
            obtain ⟨b2, o2, rfl, _, hc2⟩ := P6.out.at_ (i := k) hlt
            have hle := HLe.out k hlt
            generalize el S' k = x at *
            generalize el S k = y at *
            have h1 : ¬ y < x := by omega
            go_wp2
            go_quiet (fail)
            go_wp2
            go_roundw
            case rel => exact ⟨k + 1, _, by omega, by go_num, rfl⟩
            case measure => simp [intOf]; omega
          · obtain rfl : S.length = k := by omega
            go_wp2
            go_ret
            exact ⟨rfl, below_drewN B6.out q⟩
  · go_enter Try.func7, Try.ntmps7
    go_wp2
    go_ret
    exact ⟨rfl, Below.refl _ _⟩
end Go.Proofs.Ytlgcacoggikfcaa
