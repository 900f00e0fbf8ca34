/-
  What the whole division of a packed list answers. Conditions: the polynomial is valid; the list is packed.
-/
import Derived.Test.YtflplihhakepfaaDoorRem
namespace Go.Proofs.YtflplihhakepfaaDoor
open Go.RowKit

theorem number_packed {P : Nat → Nat} {f : Nat → Bool} (h : Packed P f) {k c : Nat} (hk : k % 4 = 0) (hc : c ≤ 4) (hkc : k + c ≤ 1024) :
    P (k / 64) / 2 ^ (64 - c - k % 64) % 2 ^ c = numF (fun j => f (k + j)) c := by
  apply Nat.eq_of_testBit_eq
  intro i
  rw [numF_test, Nat.testBit_mod_two_pow, Nat.testBit_div_two_pow]
  by_cases hi : i < c
  · simp only [hi, decide_true, Bool.true_and]
    have h1 := h.2 (k + (c - 1 - i)) (by omega)
    rw [show (k + (c - 1 - i)) / 64 = k / 64 by omega] at h1
    rw [← h1]
    congr 1
    omega
  · simp [hi]
theorem tab_next {g : Int} (hg : genOk g = true) (f : Nat → Bool) (k c : Nat) :
    (tab g.toNat (deg g) (numF f k) * 2 ^ c) % 2 ^ deg g ^^^ tab g.toNat (deg g) ((tab g.toNat (deg g) (numF f k) * 2 ^ c) / 2 ^ deg g ^^^ numF (fun j => f (k + j)) c) = tab g.toNat (deg g) (numF f (k + c)) := by
  rw [numF_add, tab_more (deg_pow hg).1 (deg_pow hg).2 _ _ _ (numF_lt _ _)]
theorem afterStep_next (g : Int) (tb k c : Nat) (f : Nat → Bool) (cs : Array Value) (w : World) (hg : genOk g = true) (ht : w.heap[tb]? = some (.cells cs 69 (0, 0))) (hcs : IsTab cs g 16) (hc : c ≤ 4) :
    Calls Tryd.prog 64 #[.pointer (some ⟨tb, 0, none⟩), .int .i64 (tab g.toNat (deg g) (numF f k) : Nat), .int .i64 (numF (fun j => f (k + j)) c : Nat), .int .i64 c] w fun e w' =>
      e = .returned (.int .i64 (tab g.toNat (deg g) (numF f (k + c)) : Nat)) ∧ ∃ n, w' = w.drewN n := by
  have h := afterStep_any g tb (tab g.toNat (deg g) (numF f k)) (numF (fun j => f (k + j)) c) c cs w hg ht hcs (tab_lt hg _) hc (numF_lt _ _)
  rw [tab_next hg] at h
  exact h
theorem numberAt_next (P : Nat → Nat) (f : Nat → Bool) (k c : Nat) (w : World) (h : Packed P f) (hk : k % 4 = 0) (hc : c ≤ 4) (hkc : k + c ≤ 1024) (hk1 : k < 1024) :
    Calls Tryd.prog 55 #[.int .u64 (P (k / 64)), .int .i64 (k % 64 : Nat), .int .i64 c] w fun e w' => e = .returned (.int .i64 (numF (fun j => f (k + j)) c : Nat)) ∧ ∃ n, w' = w.drewN n := by
  have h2 := numberAt_any (P (k / 64)) (k % 64) c w (h.1 _ (by omega)) (by omega) hc
  rw [number_packed h hk hc hkc] at h2
  exact h2

set_option maxHeartbeats 1000000 in
theorem remainderOf_any (g : Int) (tb n : Nat) (cs ps : Array Value) (P : Nat → Nat) (f : Nat → Bool) (w : World) (hg : genOk g = true) (ht : w.heap[tb]? = some (.cells cs 69 (0, 0))) (hcs : IsTab cs g 16)
    (hp : IsPack ps P n) (hf : Packed P f) (hn : n ≤ 1024) :
    Calls Tryd.prog 58 #[.pointer (some ⟨tb, 0, none⟩), .agg ps] w fun e w' => e = .returned (.int .i64 (tab g.toNat (deg g) (numF f n) : Nat)) ∧ Below w.heap.size w w' := by
  have HG := Lib.hid hg
  have HC := Lib.hid hcs
  have HP := Lib.hid hp
  have HF := Lib.hid hf
  have HT : Hid ((w.alloc (.cells ps 46)).heap[tb]? = some (.cells cs 69 (0, 0))) :=
    (Below.heap_alloc w _ tb (Array.getElem?_eq_some_iff.1 ht).1).trans ht
  have HB : Hid (Below w.heap.size w (w.alloc (.cells ps 46))) := (Below.refl _ _).alloc (Nat.le_refl _) _
  have c16 : (w.alloc (.cells ps 46)).cell? ⟨w.heap.size, 16, none⟩ = some (.int .i64 n) := by
    rw [← hp.2.2]; exact cell_of_row _ _ _ _ _ _ (heap_alloc_last _ _)
  have CW : Hid (∀ i, i < 16 → (w.alloc (.cells ps 46)).cell? ⟨w.heap.size, i, none⟩ = some (.int .u64 (P i))) := fun i hi => by
    rw [← HP.out.2.1 i hi]; exact cell_of_row _ _ _ _ _ _ (heap_alloc_last _ _)
  have C16 := Lib.hid c16
  clear hg hcs hp hf ht c16
  go_enter Tryd.func58, Tryd.ntmps58
  go_wp2
  generalize w.alloc (.cells ps 46) = W at *
  go_loopw [5, 6] (fun r a wr => ∃ k j m : Nat, a = .int .i64 k ∧ k = 4 * j ∧ k ≤ 1028 ∧ r = .int .i64 (tab g.toNat (deg g) (numF f (min k n)) : Nat) ∧ wr = W.drewN m) (fun _ a _ => 1028 - (intOf a).toNat)
  case atStart => exact ⟨0, 0, 0, rfl, rfl, by omega, by simp [numF, tab_zero], rfl⟩
  case round =>
    obtain ⟨k, j, m, rfl, hkj, hk, rfl, rfl⟩ := hrel
    have HKJ := Lib.hid hkj
    clear hkj
    by_cases hlt : k < n
    · obtain ⟨c, hc⟩ : ∃ c, c = min 4 (n - k) := ⟨_, rfl⟩
      have hc4 : c ≤ 4 := by omega
      have hmc : min (4 : Int) ((n : Int) - (k : Int)) = (c : Int) := by omega
      have hkc : k + c ≤ 1024 := by omega
      have HE : Hid (min (k + 4) n = k + c) := by show _ = _; omega
      have hmin : min k n = k := by omega
      rw [hmin]
      have c16 : (W.drewN m).cell? ⟨w.heap.size, 16, none⟩ = some (.int .i64 n) := C16.out
      have cw : (W.drewN m).cell? ⟨w.heap.size, k / 64, none⟩ = some (.int .u64 (P (k / 64))) := CW.out _ (by omega)
      have HN := Lib.hid (numberAt_next P f k c (W.drewN m) HF.out (by have := HKJ.out; omega) hc4 hkc (by omega))
      clear hc hmin
      go_wp2_with fail
      refine HN.out.mono ?_
      rintro e w1 ⟨rfl, m1, rfl⟩
      clear c16 cw HN
      go_wp2_with fail
      refine (afterStep_next g tb k c f cs (W.drewN (m + m1)) HG.out HT.out HC.out hc4).mono ?_
      rintro e w2 ⟨rfl, m2, rfl⟩
      go_wp2
      go_roundw
      case rel => exact ⟨k + 4, j + 1, m + m1 + m2, by go_num, by have := HKJ.out; omega, by omega, by rw [HE.out], rfl⟩
      case measure => simp [intOf]; omega
    · have hmin : min k n = n := by omega
      rw [hmin]
      have c16 : (W.drewN m).cell? ⟨w.heap.size, 16, none⟩ = some (.int .i64 n) := C16.out
      clear hmin
      go_wp2
      go_ret
      exact ⟨rfl, below_drewN HB.out m⟩
end Go.Proofs.YtflplihhakepfaaDoor
