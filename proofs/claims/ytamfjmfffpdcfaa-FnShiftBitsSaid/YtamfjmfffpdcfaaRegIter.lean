/-
  The program's register as an iterator: what it hands its loop, round by round. Conditions: taps and seed below 2^17; the number of steps below 2^40; the round leaves the iterator's box of the taps as it was.
-/
import Derived.RangeFuncBox
import Derived.RangeFuncNested
import Derived.RangeFuncBound
import Derived.RangeFuncCalls
import Derived.RangeFuncLeaves
import Derived.Shelf.Abstract
import Derived.Shelf.RegionOpen
import Derived.WalkKit
import Derived.OwnWalkIn
import Derived.TacticsInMore
import Derived.LoopNIn
import Derived.LoopIn
import Derived.Maps.AppendAt
import Derived.Test.YtamfjmfffpdcfaaReg
namespace Go.Proofs.Ytamfjmfffpdcfaa
open Go.RowKit Go.Shelf
attribute [local go_sem] Oper.semAt_some

/-- What round k is handed: the output and the state behind it. -/
def regAt (T S k : Nat) : Int × Int := (outAt T S k, (st T S (k + 1) : Int))
def regUpto (T S k : Nat) : List (Int × Int) := (List.range k).map (regAt T S)
theorem regUpto_succ (T S k : Nat) : regUpto T S (k + 1) = regUpto T S k ++ [regAt T S k] := by simp [regUpto, List.range_succ]
theorem regUpto_length (T S k : Nat) : (regUpto T S k).length = k := by simp [regUpto]
theorem regUpto_outs (T S k : Nat) : (regUpto T S k).map (·.1) = outs T S k := by simp [regUpto, outs, regAt, Function.comp_def]
abbrev encP (p : Int × Int) : Array Value := #[.int .i64 p.1, .int .i64 p.2]
/-- What a round that goes on keeps: the box of the taps. -/
def KeepsBox (b : Nat) (W W' : World) : Prop := W'.cell? ⟨b, 0, none⟩ = W.cell? ⟨b, 0, none⟩
theorem keepsBox_t {b : Nat} {A B C : World} (h : KeepsBox b A B) (k : KeepsBox b B C) : KeepsBox b A C := Eq.trans k h
theorem keepsBox_b {b : Nat} {w : World} (hb : b < w.heap.size) (W : World) (l : Nat) (o o' : Obj) (hl : w.heap.size ≤ l) (h : W.heap[l]? = some o) (h1 : o.isCells = false) (h2 : o.isWalk = false) : KeepsBox b W (W.putObj l o') :=
  (belowK_b (n₀ := b + 1) (w := w) hb W l o o' hl h h1 h2).cell (p := ⟨b, 0, none⟩) (by simp)

theorem step_bits {S : Nat} (hS : S < 4611686018427387904) : bits .and .i64 (S : Int) 1 = ((S % 2 : Nat) : Int) := by
  have h := i64_and S 1 (by omega) (by omega)
  rw [Nat.and_one_is_mod] at h
  simpa using h

set_option maxRecDepth 100000 in
set_option maxHeartbeats 2000000 in
/-- The closure: count rounds, each handed the output and the state behind it, till a round says no more. -/
theorem reg1_in (F : Fence) (n : Nat) (hf : F.fn 55) (hro : F.round = none) (hn : 1 ≤ n) (l Bt Bs Bc T S m d : Nat) (hT : Tapped T d) (hT2 : T < 131072) (hS : S < 2 ^ d) (hS1 : 1 ≤ S) (hS2 : 2 ^ d ≤ 65536) (hm : m ≤ 1099511627776)
    (J Jx : List (Int × Int) → World → Prop)
    (hY : ∀ pre x W, J pre W → pre.length < m → YieldAt F (n - 1) Try.prog l (encP x) W fun e W' =>
      (e = .returned (.bool true) ∧ J (pre ++ [x]) W' ∧ KeepsBox Bt W W') ∨ (e = .returned (.bool false) ∧ Jx (pre ++ [x]) W'))
    (W : World) (hBt : W.cell? ⟨Bt, 0, none⟩ = some (.int .i64 (T : Int))) (hBs : W.cell? ⟨Bs, 0, none⟩ = some (.int .i64 (S : Int))) (hBc : W.cell? ⟨Bc, 0, none⟩ = some (.int .i64 (m : Int))) (h0 : J [] W) :
    CallsIn F n Try.prog 55 #[.func (.yield l) #[] #[], .pointer (some ⟨Bs, 0, none⟩), .pointer (some ⟨Bc, 0, none⟩), .pointer (some ⟨Bt, 0, none⟩)] W fun e W' => (∃ v, e = .returned v) ∧
      ((∃ ys, ys = regUpto T S m ∧ J ys W') ∨ (∃ pre, (∃ k, k ≤ m ∧ pre = regUpto T S k) ∧ Jx pre W')) := by
  refine callsIn_of_wp Try.func55 rfl hf ?_ hro
  simp only [Try.ntmps55, List.size_toArray, List.length_cons, List.length_nil, Nat.reduceAdd, Nat.reduceSub, Array.replicate_succ, Array.replicate_zero, List.push_toArray, List.append_toArray, List.nil_append, List.cons_append]
  gi_wp2
  gi_loopw [5, 9] (fun s i wr => ∃ k : Nat, k ≤ m ∧ i = .int .i64 k ∧ s = .int .i64 (st T S k : Int) ∧ J (regUpto T S k) wr ∧ wr.cell? ⟨Bt, 0, none⟩ = some (.int .i64 (T : Int)))
    (fun _ i _ => m - (intOf i).toNat)
  case atStart => exact ⟨0, Nat.zero_le _, rfl, rfl, h0, hBt⟩
  case round =>
    obtain ⟨k, hk, rfl, rfl, hJs, hBt'⟩ := hrel
    by_cases hlt : k < m
    · have hst := (st_in hT hS hS1 k).2
      obtain ⟨fn, tmps, assign, body, hy, hR⟩ := hY _ (regAt T S k) wr hJs (by rw [regUpto_length]; exact hlt)
      dsimp only [regAt, outAt, st, encP] at hy
      have hR' := Lib.hid hR
      have HJ := Lib.hid hJs
      clear hR hJs h0 hBs hBc hBt
      obtain ⟨X, hX⟩ : ∃ X, X = st T S k := ⟨_, rfl⟩
      rw [← hX] at hst hy ⊢
      have hXb : X < 65536 := by omega
      have hand := step_bits (S := X) (by omega)
      obtain ⟨o, hoX⟩ : ∃ o, o = X % 2 := ⟨_, rfl⟩
      rw [← hoX] at hand hy
      have ho2 : o < 2 := by omega
      by_cases ho : o = 1
      · have hxor : bits .xor .i64 ((X : Int) / 2) ((T : Int) / 2) = (nxt T X : Int) := by
          rw [show (X : Int) / 2 = ((X / 2 : Nat) : Int) from rfl, show (T : Int) / 2 = ((T / 2 : Nat) : Int) from rfl, i64_xor _ _ (by omega) (by omega)]
          simp [nxt, ← hoX, ho]
        subst ho
        rw [show ((1 : Nat) : Int) = 1 from rfl] at hy
        have HX := Lib.hid hX
        obtain ⟨Z, hZ⟩ : ∃ Z, Z = nxt T X := ⟨_, rfl⟩
        rw [← hZ] at hxor hy
        have HZ := Lib.hid hZ
        clear hX hoX hZ
        gi_wp2
        refine hR'.out.mono ?_
        rintro e W3 (⟨rfl, hJ3, hk3⟩ | ⟨rfl, hJx3⟩)
        · have hb3 : W3.cell? ⟨Bt, 0, none⟩ = some (.int .i64 (T : Int)) := Eq.trans hk3 hBt'
          have HJ3 := Lib.hid hJ3
          clear hJ3 hk3 hy hR'
          gi_wp2
          go_roundw
          case rel => exact ⟨k + 1, by omega, by go_num, by simp only [st, ← HX.out, ← HZ.out], by rw [regUpto_succ]; exact HJ3.out, hb3⟩
          case measure => simp [intOf]; omega
        · have HJx := Lib.hid hJx3
          clear hJx3 hy hR'
          gi_wp2
          refine bodyPost_ret (results_none rfl _ _ _) rfl ?_
          exact ⟨⟨_, rfl⟩, .inr ⟨_, ⟨k + 1, by omega, (regUpto_succ _ _ _).symm⟩, HJx.out⟩⟩
      · have hhalf : ((X : Int) / 2) = (nxt T X : Int) := by
          rw [show (X : Int) / 2 = ((X / 2 : Nat) : Int) from rfl]
          simp [nxt, ← hoX, ho]
        obtain rfl : o = 0 := by omega
        rw [show ((0 : Nat) : Int) = 0 from rfl] at hy
        have HX := Lib.hid hX
        obtain ⟨Z, hZ⟩ : ∃ Z, Z = nxt T X := ⟨_, rfl⟩
        rw [← hZ] at hhalf hy
        have HZ := Lib.hid hZ
        clear hX hoX hZ
        gi_wp2
        refine hR'.out.mono ?_
        rintro e W3 (⟨rfl, hJ3, hk3⟩ | ⟨rfl, hJx3⟩)
        · have hb3 : W3.cell? ⟨Bt, 0, none⟩ = some (.int .i64 (T : Int)) := Eq.trans hk3 hBt'
          have HJ3 := Lib.hid hJ3
          clear hJ3 hk3 hy hR'
          gi_wp2
          go_roundw
          case rel => exact ⟨k + 1, by omega, by go_num, by simp only [st, ← HX.out, ← HZ.out], by rw [regUpto_succ]; exact HJ3.out, hb3⟩
          case measure => simp [intOf]; omega
        · have HJx := Lib.hid hJx3
          clear hJx3 hy hR'
          gi_wp2
          refine bodyPost_ret (results_none rfl _ _ _) rfl ?_
          exact ⟨⟨_, rfl⟩, .inr ⟨_, ⟨k + 1, by omega, (regUpto_succ _ _ _).symm⟩, HJx.out⟩⟩
    · obtain rfl : k = m := by omega
      gi_wp2
      go_end0
      exact ⟨⟨_, rfl⟩, .inl ⟨_, rfl, hJs⟩⟩
end Go.Proofs.Ytamfjmfffpdcfaa
