/-
  Copying, comparing and marking lists of Booleans. Conditions: lists that can be read, of at most 2^20 values.
-/
import Derived.Test.YtenihedpbklmlaaRpPost
namespace Go.Proofs.Ytenihedpbklmlaa
open Go.RowKit

set_option maxRecDepth 10000 in
theorem makeB2 (n : Nat) (hn : n ≤ 2000000) (w : World) : (Instr.makeSlice 31 (.int .i64 (n : Int)) (.int .i64 (n : Int))).run Try.prog w = .ok (.slice (some ⟨w.heap.size, 0, none⟩) n n) (w.alloc (.cells (madeCells #[.bool false] n) 4)) :=
  run_make_row' (P := Try.prog) 31 4 (.bool false) 1 Try.underlying31 Try.infoBool1 rfl .i64 .i64 n (by omega) (by omega) w
/-- A row of Booleans of a call's own. -/
def RowB (W : World) (b : Nat) (ls : List Bool) : Prop := W.rowIs b 4 ls.length (fun i => .bool (bt ls i))
section
variable {W W' : World} {b : Nat} {ls : List Bool}
theorem RowB.lt (h : RowB W b ls) : b < W.heap.size := World.rowIs.lt h
theorem RowB.bls (h : RowB W b ls) : Bls W W.heap.size (some ⟨b, 0, none⟩) ls := fun _ => ⟨b, 0, rfl, h.lt, fun i hi => by rw [Nat.zero_add]; exact World.rowIs.cell h hi⟩
theorem RowB.next (h : RowB W b ls) (hb : Below W.heap.size W W') : RowB W' b ls := World.rowIs.of_block h (hb.block b h.lt)
theorem RowB.drewN (h : RowB W b ls) (n : Nat) : RowB (W.drewN n) b ls := h
end
set_option maxRecDepth 10000 in
set_option maxHeartbeats 1000000 in
theorem toBoolS_any (a : Option Addr) (c : Nat) (ls : List Bool) (w : World) (hx : Bls w w.heap.size a ls) (hl : ls.length ≤ 1048576) :
    Calls Try.prog 31 #[.slice a ls.length c] w fun e w' => e = .returned (.slice (some ⟨w.heap.size, 0, none⟩) ls.length ls.length) ∧ RowB w' w.heap.size ls ∧ Below w.heap.size w w' := by
  have HX := Lib.hid hx
  have hmk := makeB2 ls.length (by omega)
  have HR0 := Lib.hid ((World.rowIs_made w (.bool false) ls.length 4).congr (g := fun i => .bool (if i < 0 then bt ls i else false)) fun i _ => by simp)
  have HB0 := Lib.hid (alloc_belowX w (.cells (madeCells #[.bool false] ls.length) 4))
  have HL := Lib.hid hl
  clear hx
  go_enter Try.func31, Try.ntmps31
  go_wp2
  clear hmk hl
  go_loopw [4] (fun i wr => ∃ k : Nat, k ≤ ls.length ∧ i = .int .i64 (k : Int) ∧ wr.rowIs w.heap.size 4 ls.length (fun j => .bool (if j < k then bt ls j else false)) ∧ Below w.heap.size w wr) (fun i _ => ls.length - (intOf i).toNat)
  case atStart => exact ⟨0, Nat.zero_le _, rfl, HR0.out, HB0.out⟩
  case round =>
    obtain ⟨k, hk, rfl, hr, hb⟩ := hrel
    have HR := Lib.hid hr
    have HB := Lib.hid hb
    have hk2 : k ≤ 1048576 := Nat.le_trans hk HL.out
    clear hr hb HR0 HB0
    by_cases hlt : k < ls.length
    · obtain ⟨bb, off, rfl, hb', hc'⟩ := (HX.out.below HB.out).at_ hlt
      have ck := World.rowIs.cell HR.out hlt
      have fk := World.rowIs.frozen HR.out k
      have HS := Lib.hid ((World.rowIs.set HR.out k (.bool (bt ls k))).congr (g := fun j => .bool (if j < k + 1 then bt ls j else false)) fun i _ => by
        by_cases e : i = k
        · subst e; rw [if_pos rfl, if_pos (by omega)]
        · rw [if_neg e]
          by_cases h : i < k
          · rw [if_pos h, if_pos (by omega)]
          · rw [if_neg h, if_neg (by omega)])
      have HB2 := Lib.hid (HB.out.setCell (p := ⟨w.heap.size, k, none⟩) (Nat.le_refl _) (.bool (bt ls k)))
      generalize bt ls k = x at hc' HS HB2
      go_wp2
      go_roundw
      case rel => exact ⟨k + 1, by omega, by go_num, HS.out, HB2.out⟩
      case measure => simp [intOf]; omega
    · obtain rfl : k = ls.length := by omega
      go_wp2
      go_ret
      exact ⟨rfl, HR.out.congr fun i hi => by rw [if_pos hi], HB.out⟩
set_option maxRecDepth 10000 in
set_option maxHeartbeats 1000000 in
theorem eqBoolS_same (a a' : Option Addr) (c c' B B' : Nat) (ls : List Bool) (w : World) (hx : Bls w B a ls) (hy : Bls w B' a' ls) (hl : ls.length ≤ 1048576) :
    Calls Try.prog 32 #[.slice a ls.length c, .slice a' ls.length c'] w fun e w' => e = .returned (.bool true) ∧ ∃ n, w' = w.drewN n := by
  have HX := Lib.hid hx
  have HY := Lib.hid hy
  have HL := Lib.hid hl
  obtain ⟨m, hm⟩ : ∃ m, m = ls.length := ⟨_, rfl⟩
  have HM := Lib.hid hm
  rw [← hm] at hl ⊢
  have z0 : ((m : Int) != (m : Int)) = false := by simp
  clear hx hy hm
  go_enter Try.func32, Try.ntmps32
  go_wp2
  clear z0
  go_loopw [5] (fun i wr => ∃ k q : Nat, k ≤ m ∧ i = .int .i64 (k : Int) ∧ wr = w.drewN q) (fun i _ => m - (intOf i).toNat)
  case atStart => exact ⟨0, 0, Nat.zero_le _, rfl, rfl⟩
  case round =>
    obtain ⟨k, q, hk, rfl, rfl⟩ := hrel
    by_cases hlt : k < m
    · obtain ⟨b1, o1, rfl, _, hc1⟩ := HX.out.at_ (i := k) (by rw [← HM.out]; exact hlt)
      obtain ⟨b2, o2, rfl, _, hc2⟩ := HY.out.at_ (i := k) (by rw [← HM.out]; exact hlt)
      generalize bt ls k = x at hc1 hc2
      have hd1 : (w.drewN q).cell? ⟨b1, o1 + k, none⟩ = some (.bool x) := hc1
      have hd2 : (w.drewN q).cell? ⟨b2, o2 + k, none⟩ = some (.bool x) := hc2
      have z : (x != x) = false := by simp
      have hkI : (k : Int) < (m : Int) := by omega
      go_wp2
      go_quiet (fail)
      go_wp2
      go_roundw
      case rel => exact ⟨k + 1, _, by omega, by go_num, rfl⟩
      case measure => simp [intOf]; omega
    · obtain rfl : k = m := by omega
      go_wp2
      go_ret
      exact ⟨rfl, q, rfl⟩
set_option maxRecDepth 10000 in
set_option maxHeartbeats 1000000 in
theorem markBoolS_row (b c n k0 : Nat) (f : Nat → Value) (w : World) (hr : w.rowIs b 4 n f) (hn : n ≤ 1048576) (hk0 : k0 ≤ 1073741824) :
    Calls Try.prog 33 #[.slice (some ⟨b, 0, none⟩) n c, .int .i64 (k0 : Int)] w fun e w' => e = .returned (.int .i64 ((k0 + n : Nat) : Int)) ∧ KeptOut b (b + 1) w w' := by
  have HR0 := Lib.hid hr
  have HN := Lib.hid hn
  have HK0 := Lib.hid hk0
  clear hr hn hk0
  go_enter Try.func33, Try.ntmps33
  go_wp2
  go_loopw [1, 5] (fun K i wr => ∃ k q : Nat, k ≤ n ∧ i = .int .i64 (k : Int) ∧ K = .int .i64 (q : Int) ∧ q = k0 + k ∧ (∃ g, wr.rowIs b 4 n g) ∧ KeptOut b (b + 1) w wr) (fun _ i _ => n - (intOf i).toNat)
  case atStart => exact ⟨0, k0, Nat.zero_le _, rfl, rfl, rfl, ⟨f, HR0.out⟩, KeptOut.refl _ _ _⟩
  case round =>
    obtain ⟨k, q, hk, rfl, rfl, hq, ⟨g, hg⟩, hkp⟩ := hrel
    have HG := Lib.hid hg
    have HKp := Lib.hid hkp
    have HQ := Lib.hid hq
    have hq2 : q ≤ 1074790400 := by have := HN.out; have := HK0.out; omega
    have hn2 := HN.out
    clear hg hkp hq
    by_cases hlt : k < n
    · have ck := World.rowIs.cell HG.out hlt
      have fk := World.rowIs.frozen HG.out k
      have hkI : (k : Int) < (n : Int) := by omega
      obtain ⟨r, hr⟩ : ∃ r : Nat, r = q % 3 := ⟨_, rfl⟩
      have hr3 : r < 3 := by omega
      have ht : (q : Int).tmod 3 = (r : Int) := by rw [Int.tmod_eq_emod_of_nonneg (by omega)]; omega
      have w1 : -1000000000000 ≤ (r : Int) ∧ (r : Int) ≤ 1000000000000 := by omega
      have HS := Lib.hid (World.rowIs.set HG.out k (.bool ((r : Int) == 0)))
      have HK2 := Lib.hid (keptOut_trans HKp.out (keptOut_set (A := b) (E := b + 1) wr k (.bool ((r : Int) == 0)) (Nat.le_refl _) (by omega)))
      have r1 := wrapW w1
      have r1' := wrapW' w1
      clear hr w1
      go_wp2
      go_roundw
      case rel => exact ⟨k + 1, q + 1, by omega, by go_num, by go_num, by have := HQ.out; omega, ⟨_, HS.out⟩, HK2.out⟩
      case measure => simp [intOf]; omega
    · obtain rfl : k = n := by omega
      have HE := Lib.hid (show ((q : Nat) : Int) = ((k0 + k : Nat) : Int) by rw [HQ.out])
      go_wp2
      go_ret
      exact ⟨ret_int HE.out, HKp.out⟩
end Go.Proofs.Ytenihedpbklmlaa
