/-
  The two drawn lists of a law, the test for bits and the sign of life that the laws use. Conditions: those of a list that can be read.
-/
import Derived.Test.YtflplihhakepfaaDoorDraw3
namespace Go.Proofs.YtflplihhakepfaaDoor
open Go.RowKit

/-- A slice that came in, with its capacity. -/
theorem ints_of_open2 {k : IntKind} {w : World} {a : Option Addr} {len cap : Nat} {zs : List Int}
    (h : (a = none ∧ len = 0 ∧ cap = 0 ∧ zs = []) ∨
      ∃ x, a = some x ∧ len ≤ cap ∧ cap ≤ maxLen ∧ zs.length = cap ∧ (∀ i, i < zs.length → w.cell? (x.add i) = some (.int k (zs.getD i 0))) ∧ ∀ n ∈ zs, (Lit.int k n).wf = true) :
    ∃ xs : List Int, xs.length = len ∧ Ints k w w.heap.size a xs ∧ (∀ n ∈ xs, (Lit.int k n).wf = true) ∧ xs.length ≤ cap ∧ cap ≤ maxLen := by
  have hc : len ≤ cap ∧ cap ≤ maxLen := by
    rcases h with ⟨_, rfl, rfl, _⟩ | ⟨_, _, h1, h2, _⟩
    · exact ⟨Nat.le_refl _, by unfold maxLen; omega⟩
    · exact ⟨h1, h2⟩
  obtain ⟨xs, h1, h2, h3⟩ := ints_of_open h
  exact ⟨xs, h1, h2, h3, by omega, hc.2⟩

def TwoPost (w : World) (e : Ending) (w' : World) : Prop :=
  ∃ xs ys a b c c', e = .returned (.tuple #[.slice a xs.length c, .slice b ys.length c']) ∧ xs.length ≤ 21 ∧ ys.length ≤ 21 ∧ (∀ x ∈ xs, small x) ∧ (∀ x ∈ ys, small x) ∧
    Ints .i64 w' w'.heap.size a xs ∧ Ints .i64 w' w'.heap.size b ys ∧ Below w.heap.size w w'
set_option maxHeartbeats 400000 in
theorem isBits_any (a : Option Addr) (c B : Nat) (xs : List Int) (w : World) (hx : Ints .i64 w B a xs) (hl : xs.length ≤ maxLen) :
    Calls Tryd.prog 14 #[.slice a xs.length c] w fun e w' => e = .returned (.bool (bitsOk xs)) ∧ w = w' := by
  unfold maxLen at hl
  go_enter Tryd.func14, Tryd.ntmps14
  go_wp2
  go_loop [3] (fun i => ∃ k : Nat, k ≤ xs.length ∧ i = .int .i64 k ∧ (xs.take k).all isBit = true) (fun i => xs.length - (intOf i).toNat)
  case atStart => exact ⟨0, Nat.zero_le _, rfl, by simp⟩
  case round =>
    obtain ⟨k, hk, rfl, hall⟩ := hrel
    have HA := Lib.hid hall
    clear hall
    by_cases hlt : k < xs.length
    · obtain ⟨b, off, rfl, hb, hc⟩ := hx.at_ hlt
      clear hx
      cases h1 : isBit (el xs k)
      · have n0 : (el xs k != 0) = true := by simp [isBit] at h1; simp [h1]
        have n1 : (el xs k != 1) = true := by simp [isBit] at h1; simp [h1]
        have HZ := Lib.hid (all_false isBit xs k hlt h1)
        clear h1
        go_wp2
        go_ret
        exact ⟨ret_bool (by simp [bitsOk, HZ.out]), rfl⟩
      · have H1 := Lib.hid h1
        have h0 : el xs k = 0 ∨ el xs k = 1 := by simpa [isBit] using h1
        clear h1
        rcases h0 with hz | hz
        · have z1 : (el xs k != 0) = false := by simp [hz]
          clear hz
          go_wp2
          go_round
          case rel => exact ⟨k + 1, by omega, by go_num, all_take_succ _ _ _ hlt HA.out H1.out⟩
          case measure => simp [intOf]; omega
        · have z1 : (el xs k != 0) = true := by simp [hz]
          have z2 : (el xs k != 1) = false := by simp [hz]
          clear hz
          go_wp2
          go_round
          case rel => exact ⟨k + 1, by omega, by go_num, all_take_succ _ _ _ hlt HA.out H1.out⟩
          case measure => simp [intOf]; omega
    · have hz : xs.take k = xs := List.take_of_length_le (by omega)
      have HZ := Lib.hid hz
      clear hz
      go_wp2
      go_ret
      exact ⟨ret_bool (by have h := HA.out; rw [HZ.out] at h; simp [bitsOk, h]; omega), rfl⟩

theorem dist_10 : distOr [1] [0] = 1 := by decide +kernel
theorem ints_one {w : World} {b : Nat} {t : TypeId} {x : Int} (h : w.heap[b]? = some (.cells #[.int .i64 x] t (0, 0))) (hb : b < w.heap.size) : Ints .i64 w w.heap.size (some ⟨b, 0, none⟩) [x] := fun _ =>
  ⟨b, 0, rfl, hb, fun i hi => by
    have h0 : i = 0 := by simp at hi; exact hi
    subst h0
    rw [cell_of_row _ _ _ _ _ _ h]; rfl⟩
set_option maxHeartbeats 400000 in
theorem alive_any (w : World) : Calls Tryd.prog 15 #[] w fun e w' => e = .returned (.bool true) ∧ Below w.heap.size w w' := by
  go_enter Tryd.func15, Tryd.ntmps15
  go_wp2_with fail
  refine (hamming_any _ _ 1 1 _ _ [1] [0] _ (ints_one (heap_prev2 w _ _) (by simp; omega)) (ints_one (heap_last2 w _ _) (by simp)) (Nat.le_refl _) (Nat.le_refl _)).mono ?_
  rintro e w1 ⟨rfl, b1⟩
  have B1 := Lib.hid (after2 b1).2.2.2
  have hd : (distOr [1] [0] == 1) = true := by rw [dist_10]; rfl
  clear b1
  go_wp2
  go_ret
  exact ⟨rfl, B1.out⟩
end Go.Proofs.YtflplihhakepfaaDoor
