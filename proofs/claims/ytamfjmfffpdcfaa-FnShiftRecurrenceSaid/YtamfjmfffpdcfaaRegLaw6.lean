/-
  The law of the recurrence of a register, walked: it returns true for every code, and writes into nothing that was there.
-/
import Derived.Test.YtamfjmfffpdcfaaRegDraw2
import Derived.Test.YtamfjmfffpdcfaaRegLaw1
namespace Go.Proofs.Ytamfjmfffpdcfaa
open Go.RowKit

def recAt (S j : Nat) : Bool := st 19 S (j + 3) % 2 ^^^ st 19 S j % 2 == st 19 S (j + 4) % 2
theorem rec_all : (List.range 15).all (fun S => (List.range 36).all fun j => recAt (S + 1) j) = true := by decide +kernel
theorem rec_eq {S j : Nat} (h1 : 1 ≤ S) (h2 : S ≤ 15) (h4 : j < 36) : st 19 S (j + 3) % 2 ^^^ st 19 S j % 2 = st 19 S (j + 4) % 2 := by
  have h := List.all_eq_true.1 (List.all_eq_true.1 rec_all (S - 1) (List.mem_range.2 (by omega))) j (List.mem_range.2 h4)
  rw [show S - 1 + 1 = S by omega] at h
  exact eq_of_beq h

set_option maxHeartbeats 2000000 in
theorem walkShiftRecurrence (a : Option Addr) (c : Nat) (ds : List Int) (w : World) (hx : Ints .u8 w w.heap.size a ds) (hw : ∀ n ∈ ds, (Lit.int .u8 n).wf = true) (hc : ds.length ≤ c) (hcm : c ≤ maxLen) :
    Calls Try.prog 9 #[.slice a ds.length c] w fun e w' => e = .returned (.bool true) ∧ Below w.heap.size w w' := by
  have hb := isByte_of_wf hw
  clear hw
  by_cases hl : ds.length ≤ 1048576
  · go_enter Try.func9, Try.ntmps9
    go_wp2_with fail
    refine (drawShiftBits_any a c ds w hx hb hc hcm).mono ?_
    rintro e w1 ⟨g, s, n, hg, ⟨hs0, hs1⟩, rfl, b1⟩
    have B1 := Lib.hid b1
    clear hx hb hc hcm b1 hg
    obtain ⟨S, hS⟩ : ∃ S : Nat, s = (S : Int) := ⟨s.toNat, by omega⟩
    subst hS
    obtain ⟨Z, hZ⟩ : ∃ Z : Nat, Z = 1 + S % 15 := ⟨_, rfl⟩
    have hZ' : (1 + (S : Int) % 15) = (Z : Int) := by omega
    have hZ1 : 1 ≤ Z := by omega
    have hZ2 : Z ≤ 15 := by omega
    have hO := outs19 hZ1 hZ2 (n := 40) (by omega)
    rw [show ((40 : Nat) : Int) = 40 from rfl] at hO
    have HO := Lib.hid hO
    have HLen := Lib.hid (outs_length 19 Z 40)
    clear hZ hO
    go_wp2_with fail
    refine (shiftBits_any 19 (Z : Int) 40 w1).mono ?_
    rw [HO.out]
    rintro e w2 ⟨v, cv, rfl, _, o2, b2⟩
    rw [HLen.out]
    have X2 := Lib.hid (own_of_list o2).ints
    have B2 := Lib.hid (Below.next B1.out (Nat.le_refl _) b2)
    clear o2 b2 B1
    have HSl := Lib.hid (show (outs 19 Z 40).length ≤ 1048576 by rw [HLen.out]; omega)
    have z3 : decide (outs 19 Z 40 = outs 19 Z 40) = true := by simp
    go_wp2_with fail
    refine (specShiftBits_any 19 (Z : Int) 40 w2).mono ?_
    rw [HO.out]
    rintro e w3 ⟨v3, cv3, rfl, _, o3, b3⟩
    have Y3 := Lib.hid (own_of_list o3).ints
    have X3 := Lib.hid (X2.out.next b3)
    have B3 := Lib.hid (Below.next B2.out (Nat.le_refl _) b3)
    clear o3 b3 X2 B2
    have HSame := Lib.hid (sameInts_any v v3 cv cv3 w3.heap.size w3.heap.size (outs 19 Z 40) (outs 19 Z 40) w3 X3.out Y3.out HSl.out)
    rw [HLen.out] at HSame ⊢
    go_wp2_with fail
    refine HSame.out.mono ?_
    rintro e w4 ⟨rfl, n4, rfl⟩
    have B4 := Lib.hid (below_drewN B3.out n4)
    have X4 : Hid (Ints .i64 (w3.drewN n4) (w3.drewN n4).heap.size v (outs 19 Z 40)) := X3.out
    clear HSame B3 X3 Y3 z3
    generalize w3.drewN n4 = w5 at *
    go_wp2
    go_loopw [8] (fun i wr => ∃ j : Nat, j ≤ 36 ∧ i = .int .i64 ((j : Int) + 4) ∧ ∃ m, wr = w5.drewN m) (fun i _ => 40 - (intOf i).toNat)
    case atStart => exact ⟨0, by omega, rfl, 0, rfl⟩
    case round =>
      obtain ⟨j, hj, rfl, m, rfl⟩ := hrel
      by_cases hlt : j < 36
      · obtain ⟨b, off, rfl, hbb, hc4⟩ := X4.out.at_ (i := j + 4) (by rw [HLen.out]; omega)
        obtain ⟨b', off', e', _, hc3⟩ := X4.out.at_ (i := j + 3) (by rw [HLen.out]; omega)
        injection e' with e'
        injection e' with e1 e2
        subst e1 e2
        obtain ⟨b', off', e', _, hc0⟩ := X4.out.at_ (i := j) (by rw [HLen.out]; omega)
        injection e' with e'
        injection e' with e1 e2
        subst e1 e2
        rw [outs_el (by omega)] at hc4 hc3 hc0
        have hr := rec_eq hZ1 hZ2 hlt
        unfold outAt at hc4 hc3 hc0
        have q3 : st 19 Z (j + 3) % 2 < 2 := Nat.mod_lt _ (by omega)
        have q0 : st 19 Z j % 2 < 2 := Nat.mod_lt _ (by omega)
        generalize st 19 Z (j + 4) % 2 = y4 at *
        generalize st 19 Z (j + 3) % 2 = y3 at *
        generalize st 19 Z j % 2 = y0 at *
        have hxor : bits .xor .i64 (y3 : Int) (y0 : Int) = (y4 : Int) := by rw [← hr]; exact i64_xor y3 y0 (by omega) (by omega)
        have hne : ((y4 : Int) != (y4 : Int)) = false := by simp
        have k4 : (w5.drewN m).drew.cell? ⟨b, off + (j + 4), none⟩ = some (.int .i64 (y4 : Int)) := hc4
        have k3 : (w5.drewN m).drew.cell? ⟨b, off + (j + 3), none⟩ = some (.int .i64 (y3 : Int)) := hc3
        have k0 : (w5.drewN m).drew.cell? ⟨b, off + j, none⟩ = some (.int .i64 (y0 : Int)) := hc0
        clear hr
        have t4 : ((j : Int) + 4).toNat = j + 4 := by omega
        have t3 : ((j : Int) + 3).toNat = j + 3 := by omega
        have hj1 : (j : Int) + 4 < 40 := by omega
        have hj2 : (j : Int) + 3 < 40 := by omega
        have hj3 : (j : Int) < 40 := by omega
        have hj4 : 0 ≤ (j : Int) + 4 := by omega
        have hj5 : 0 ≤ (j : Int) + 3 := by omega
        go_wp2
        go_quiet (fail)
        go_wp2
        go_roundw
        case rel => exact ⟨j + 1, by omega, by go_num, _, rfl⟩
        case measure => simp [intOf]; omega
      · obtain rfl : j = 36 := by omega
        go_wp2
        go_ret
        exact ⟨rfl, below_drewN B4.out m⟩
  · go_enter Try.func9, Try.ntmps9
    go_wp2
    go_ret
    exact ⟨rfl, Below.refl _ _⟩
end Go.Proofs.Ytamfjmfffpdcfaa
