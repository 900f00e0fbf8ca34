/-
  The law of the balance of a period, walked: it returns true for every code, and writes into nothing that was there.
-/
import Derived.Test.YtamfjmfffpdcfaaRegLaw1
namespace Go.Proofs.Ytamfjmfffpdcfaa
open Go.RowKit

/-- The ones among the first k outputs. -/
def onesN (S : Nat) : Nat → Nat
  | 0 => 0
  | k + 1 => onesN S k + st 19 S k % 2
theorem onesN_le (S : Nat) : ∀ k, onesN S k ≤ k
  | 0 => Nat.le_refl _
  | k + 1 => by have := onesN_le S k; simp only [onesN]; omega
theorem ones19_all : (List.range 15).all (fun k => onesN (k + 1) 15 == 8) = true := by decide
theorem ones19 {S : Nat} (h1 : 1 ≤ S) (h2 : S ≤ 15) : onesN S 15 = 8 := by
  have h := List.all_eq_true.1 ones19_all (S - 1) (List.mem_range.2 (by omega))
  rw [show S - 1 + 1 = S by omega] at h
  exact eq_of_beq h

set_option maxHeartbeats 2000000 in
theorem walkShiftBalance (a : Option Addr) (c : Nat) (ds : List Int) (w : World) (hx : Ints .u8 w w.heap.size a ds) (hw : ∀ n ∈ ds, (Lit.int .u8 n).wf = true) (hc : ds.length ≤ c) (hcm : c ≤ maxLen) :
    Calls Try.prog 7 #[.slice a ds.length c] w fun e w' => e = .returned (.bool true) ∧ Below w.heap.size w w' := by
  have hb := isByte_of_wf hw
  clear hw
  by_cases hl : ds.length ≤ 1048576
  · go_enter Try.func7, Try.ntmps7
    go_wp2_with fail
    refine (drawShiftPeriod_any a c ds w hx hb hc hcm).mono ?_
    rintro e w1 ⟨g, s, hg, ⟨hs0, hs1⟩, rfl, b1⟩
    have B1 := Lib.hid b1
    clear hx hb hc hcm b1 hg
    obtain ⟨S, hS⟩ : ∃ S : Nat, s = (S : Int) := ⟨s.toNat, by omega⟩
    subst hS
    obtain ⟨Z, hZ⟩ : ∃ Z : Nat, Z = 1 + S % 15 := ⟨_, rfl⟩
    have hZ' : (1 + (S : Int) % 15) = (Z : Int) := by omega
    have hZ1 : 1 ≤ Z := by omega
    have hZ2 : Z ≤ 15 := by omega
    have hO := outs19 hZ1 hZ2 (n := 15) (by omega)
    rw [show ((15 : Nat) : Int) = 15 from rfl] at hO
    have HO := Lib.hid hO
    have H8 := Lib.hid (ones19 hZ1 hZ2)
    have hlen : (outs 19 Z 15).length = 15 := outs_length _ _ _
    have HLen := Lib.hid hlen
    clear hZ hO hlen
    go_wp2_with fail
    refine (shiftBits_any 19 (Z : Int) 15 w1).mono ?_
    rw [HO.out]
    rintro e w2 ⟨v, cv, rfl, ⟨hcv1, hcv2⟩, o2, b2⟩
    rw [HLen.out] at hcv1 ⊢
    have X2 := Lib.hid (own_of_list o2).ints
    have B2 := Lib.hid (Below.next B1.out (Nat.le_refl _) b2)
    clear o2 b2 B1
    go_wp2
    go_loop [7, 8] (fun n i => ∃ k : Nat, k ≤ 15 ∧ i = .int .i64 k ∧ n = .int .i64 (onesN Z k : Int)) (fun _ i => 15 - (intOf i).toNat)
    case atStart => exact ⟨0, Nat.zero_le _, rfl, rfl⟩
    case round =>
      obtain ⟨k, hk, rfl, rfl⟩ := hrel
      by_cases hlt : k < 15
      · obtain ⟨b, off, rfl, hbb, hcell⟩ := X2.out.at_ (i := k) (by rw [HLen.out]; exact hlt)
        rw [outs_el hlt] at hcell
        have ho := onesN_le Z k
        obtain ⟨y, hy⟩ : ∃ y, y = st 19 Z k % 2 := ⟨_, rfl⟩
        have hy2 : y < 2 := by omega
        rw [show outAt 19 Z k = (y : Int) by rw [hy]; rfl] at hcell
        have HN := Lib.hid (show onesN Z (k + 1) = onesN Z k + y by rw [hy]; rfl)
        clear hy
        go_wp2
        go_round
        case rel => exact ⟨k + 1, by omega, by go_num, by rw [HN.out]; go_num⟩
        case measure => simp [intOf]; omega
      · obtain rfl : k = 15 := by omega
        have h8 : ((onesN Z 15 : Nat) : Int) = 8 := by rw [H8.out]; rfl
        have hS15 : (outs 19 Z 15).length ≤ 1048576 := by rw [HLen.out]; omega
        have z3 : decide (outs 19 Z 15 = outs 19 Z 15) = true := by simp
        have HS15 := Lib.hid hS15
        clear hS15
        go_wp2_with fail
        refine (specShiftBits_any 19 (Z : Int) 15 w2).mono ?_
        rw [HO.out]
        rintro e w3 ⟨v3, cv3, rfl, _, o3, b3⟩
        have Y3 := Lib.hid (own_of_list o3).ints
        have X3 := Lib.hid (X2.out.next b3)
        have B3 := Lib.hid (Below.next B2.out (Nat.le_refl _) b3)
        clear o3 b3
        have HSame := Lib.hid (sameInts_any v v3 cv cv3 w3.heap.size w3.heap.size (outs 19 Z 15) (outs 19 Z 15) w3 X3.out Y3.out HS15.out)
        rw [HLen.out] at HSame ⊢
        go_wp2_with fail
        refine HSame.out.mono ?_
        rintro e w4 ⟨rfl, n4, rfl⟩
        go_wp2
        go_ret
        exact ⟨rfl, below_drewN B3.out n4⟩
  · go_enter Try.func7, Try.ntmps7
    go_wp2
    go_ret
    exact ⟨rfl, Below.refl _ _⟩
end Go.Proofs.Ytamfjmfffpdcfaa
