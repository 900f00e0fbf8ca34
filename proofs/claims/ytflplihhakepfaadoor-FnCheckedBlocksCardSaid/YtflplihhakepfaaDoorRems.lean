/-
  Steps of a division, digits, remainders, walked. No condition.
-/
import Derived.Test.YtflplihhakepfaaDoorNum
import Derived.Outline
namespace Go.Proofs.YtflplihhakepfaaDoor
open Go.RowKit

theorem cast_pow2 (n : Nat) : ((2 ^ n : Nat) : Int) = (2 : Int) ^ n := Int.natCast_pow 2 n
theorem low_mask {d S : Nat} (hd : d ≤ 16) (hS : S < 2 ^ 63) : bits BinOp.and IntKind.i64 (S : Int) (wrap64 (wrap64 ((2 : Int) ^ d) - 1)) = ((S % 2 ^ d : Nat) : Int) := by
  have hp : 2 ^ d ≤ 2 ^ 16 := Nat.pow_le_pow_right (by omega) hd
  have h0 := Nat.two_pow_pos d
  have h1 : wrap64 (wrap64 ((2 : Int) ^ d) - 1) = ((2 ^ d - 1 : Nat) : Int) := by
    rw [← cast_pow2]
    generalize 2 ^ d = q at *
    rw [wrap64_in (by omega), show ((q : Int) - 1) = ((q - 1 : Nat) : Int) by omega, wrap64_in (by omega)]
  rw [h1, i64_and S (2 ^ d - 1) hS (by omega), Nat.and_two_pow_sub_one_eq_mod]
set_option maxHeartbeats 1000000 in
theorem afterStep_any (g : Int) (tb r v c : Nat) (cs : Array Value) (w : World) (hg : genOk g = true) (ht : w.heap[tb]? = some (.cells cs 69 (0, 0))) (hcs : IsTab cs g 16) (hr : r < 2 ^ deg g) (hc : c ≤ 4) (hv : v < 2 ^ c) :
    Calls Tryd.prog 64 #[.pointer (some ⟨tb, 0, none⟩), .int .i64 r, .int .i64 v, .int .i64 c] w fun e w' =>
      e = .returned (.int .i64 ((r * 2 ^ c) % 2 ^ deg g ^^^ tab g.toNat (deg g) ((r * 2 ^ c) / 2 ^ deg g ^^^ v) : Nat)) ∧ ∃ n, w' = w.drewN n := by
  have hd := (deg_lt hg).2
  have hp := pow_deg hg
  have hp4 : 2 ^ c ≤ 2 ^ 4 := Nat.pow_le_pow_right (by omega) hc
  obtain ⟨d, hdd⟩ : ∃ d, d = deg g := ⟨_, rfl⟩
  have c0 : w.cell? ⟨tb, 0, none⟩ = some (.int .i64 d) := by rw [cell_of_row _ _ _ _ _ _ ht, hcs.2.1, hdd]
  obtain ⟨S, hS⟩ : ∃ S, S = r * 2 ^ c := ⟨_, rfl⟩
  obtain ⟨H, hH⟩ : ∃ H, H = S / 2 ^ d := ⟨_, rfl⟩
  obtain ⟨X, hX⟩ : ∃ X, X = H ^^^ v := ⟨_, rfl⟩
  obtain ⟨T, hT⟩ : ∃ T, T = tab g.toNat d X := ⟨_, rfl⟩
  obtain ⟨K, hK⟩ : ∃ K, K = S % 2 ^ d := ⟨_, rfl⟩
  obtain ⟨Z, hZ⟩ : ∃ Z, Z = K ^^^ T := ⟨_, rfl⟩
  have hHc : H < 2 ^ c := by
    rw [hH, Nat.div_lt_iff_lt_mul (Nat.two_pow_pos d), hS, hdd, Nat.mul_comm]
    exact Nat.mul_lt_mul_of_pos_left hr (Nat.two_pow_pos c)
  have hXc : X < 2 ^ c := by rw [hX]; exact Nat.xor_lt_two_pow hHc hv
  have hXb : X < 16 := by omega
  have hSb : S < 2 ^ 20 := by
    rw [hS]
    have h1 : r * 2 ^ c < 65536 * 2 ^ c := Nat.mul_lt_mul_of_pos_right (by omega) (Nat.two_pow_pos c)
    have h2 : 65536 * 2 ^ c ≤ 65536 * 16 := Nat.mul_le_mul_left _ (by omega)
    omega
  have hTb : T < 65536 := by have := tab_lt hg X; rw [← hdd, ← hT] at this; rw [← hdd] at hp; omega
  have hKb : K < 65536 := by have := Nat.mod_lt S (Nat.two_pow_pos d); rw [← hK] at this; rw [← hdd] at hp; omega
  have cT : w.cell? ⟨tb, 1 + X, none⟩ = some (.int .i64 (T : Int)) := by
    rw [cell_of_row _ _ _ _ _ _ ht, hcs.2.2 X hXb, if_pos hXb, hT, hdd]
  have e1 : wrap64 ((r : Int) * 2 ^ c) = (S : Int) := by
    rw [← cast_pow2, ← Int.natCast_mul, ← hS]
    exact wrap64_in (by omega)
  have hS63 : S < 2 ^ 63 := Nat.lt_of_lt_of_le hSb (Nat.pow_le_pow_right (by decide) (by decide))
  have e2 := low_mask (d := d) (S := S) (by rw [hdd]; exact hd) hS63
  clear hS63
  rw [← hK] at e2
  have r1 : (S : Int) / 2 ^ d = (H : Int) := by rw [hH, Int.natCast_ediv, cast_pow2]
  have r2 : bits .xor .i64 (H : Int) (v : Int) = (X : Int) := by rw [hX]; exact i64_xor H v (by omega) (by omega)
  have r3 : bits .xor .i64 (K : Int) (T : Int) = (Z : Int) := by rw [hZ]; exact i64_xor K T (by omega) (by omega)
  have HE : Hid ((Z : Int) = ((r * 2 ^ c) % 2 ^ deg g ^^^ tab g.toNat (deg g) ((r * 2 ^ c) / 2 ^ deg g ^^^ v) : Nat)) := by
    show _ = _
    rw [hZ, hK, hT, hX, hH, hS, hdd]
  rw [← hdd] at hd
  have hdk : (d : Int) < 64 := by omega
  clear hg ht hcs hr hdd hp4 hv hp hS hH hX hT hK hZ hHc hXc
  have E1 := Lib.hid e1
  have E2 := Lib.hid e2
  have R1 := Lib.hid r1
  have R2 := Lib.hid r2
  have R3 := Lib.hid r3
  clear e1 e2 r1 r2 r3
  go_enter Tryd.func64, Tryd.ntmps64
  go_wp2
  rw [E1.out, E2.out]
  have r1 := R1.out
  have r2 := R2.out
  have r3 := R3.out
  go_quiet (fail)
  clear r1 r2 r3
  go_wp2
  go_ret
  exact ⟨ret_int HE.out, _, rfl⟩

/-- The digits of a number, the highest first. -/
def digits (r n : Nat) : List Int := bitList (fun k => r.testBit (n - 1 - k)) n
theorem digits_length (r n : Nat) : (digits r n).length = n := bitList_length _ _
theorem digit_eq {r n k : Nat} (hr : r < 65536) : bits .and .i64 ((r : Int) / 2 ^ (n - 1 - k)) 1 = if r.testBit (n - 1 - k) then 1 else 0 := by
  have h2 : ((r : Int) / 2 ^ (n - 1 - k)) = ((r / 2 ^ (n - 1 - k) : Nat) : Int) := by
    rw [Int.natCast_ediv, cast_pow2]
  have hlt : r / 2 ^ (n - 1 - k) ≤ r := Nat.div_le_self _ _
  rw [h2, Nat.testBit_eq_decide_div_mod_eq]
  generalize r / 2 ^ (n - 1 - k) = q at *
  rw [and_one (by omega) (by omega)]
  rcases Nat.mod_two_eq_zero_or_one q with h | h
  · simp [h]; omega
  · simp [h]; omega
set_option maxHeartbeats 400000 in
theorem digitsOf_any (r n : Nat) (w : World) (hr : r < 65536) (hn : n ≤ 16) :
    Calls Tryd.prog 56 #[.int .i64 r, .int .i64 n] w fun e w' => e = .returned (.slice (some ⟨w.heap.size, 0, none⟩) n n) ∧
      w'.rowIs w.heap.size 3 n (fun i => .int .i64 (el (digits r n) i)) ∧ Below w.heap.size w w' := by
  have hmk := run_make_row' (P := Tryd.prog) 23 3 (.int .i64 0) 8 Tryd.underlying23 Tryd.infoInt rfl .i64 .i64 n (by omega) (by omega)
  go_enter Tryd.func56, Tryd.ntmps56
  go_wp2
  clear hmk
  go_loopw [11] (fun i wr => ∃ k : Nat, k ≤ n ∧ i = .int .i64 k ∧ wr.rowIs w.heap.size 3 n (fun j => .int .i64 (if j < k then el (digits r n) j else 0)) ∧ Below w.heap.size w wr) (fun i _ => n - (intOf i).toNat)
  case atStart => exact ⟨0, Nat.zero_le _, rfl, (World.rowIs_made w _ _ _).congr (by intro j hj; simp), (Below.refl _ _).alloc (Nat.le_refl _) _⟩
  case round =>
    obtain ⟨k, hk, rfl, hrow, hbel⟩ := hrel
    by_cases hlt : k < n
    · have hf := hrow.frozen k
      have hcv : wr.cell? ⟨w.heap.size, k, none⟩ = some (.int .i64 0) := by rw [hrow.cell hlt]; simp
      obtain ⟨D, hD⟩ : ∃ D : Int, D = el (digits r n) k := ⟨_, rfl⟩
      have hdig : bits .and .i64 ((r : Int) / 2 ^ (n - 1 - k)) 1 = D := by
        rw [hD, digits, bitList_el _ _ _ hlt]; exact digit_eq hr
      have R1 := (hrow.set k (.int .i64 D)).congr (g := fun j => .int .i64 (if j < k + 1 then el (digits r n) j else 0)) (by
        intro j hj
        by_cases e : j = k
        · subst e; simp [hD]
        · simp only [e, if_false]
          by_cases h2 : j < k
          · simp [h2, Nat.lt_succ_of_lt h2]
          · simp [h2, show ¬ j < k + 1 by omega])
      have R2 : Below w.heap.size w (wr.setCell ⟨w.heap.size, k, none⟩ (.int .i64 D)) := hbel.setCell (Nat.le_refl _) _
      have H1 := Lib.hid R1
      have H2 := Lib.hid R2
      clear R1 R2 hrow hbel hD
      go_wp2
      go_roundw
      case rel => exact ⟨k + 1, by omega, by go_num, H1.out, H2.out⟩
      case measure => simp [intOf]; omega
    · have H1 := Lib.hid (hrow.congr (g := fun j => .int .i64 (el (digits r n) j)) (by intro j hj; simp [show j < k by omega]))
      have H2 := Lib.hid hbel
      clear hrow hbel
      go_wp2
      go_ret
      exact ⟨rfl, H1.out, H2.out⟩

theorem number_packed {P : Nat → Nat} {f : Nat → Bool} (h : Packed P f) {k c : Nat} (hk : k % 4 = 0) (hc : c ≤ 4) (hkc : k + c ≤ 1024) :
    P (k / 64) / 2 ^ (64 - c - k % 64) % 2 ^ c = numF (fun j => f (k + j)) c := by
  apply Nat.eq_of_testBit_eq
  intro i
  rw [numF_test, Nat.testBit_mod_two_pow, Nat.testBit_div_two_pow]
  by_cases hi : i < c
  · simp only [hi, decide_true, Bool.true_and]
    have h1 := h.2 (k + (c - 1 - i)) (by omega)
    rw [show (k + (c - 1 - i)) / 64 = k / 64 by omega] at h1
    rw [← h1]
    congr 1
    omega
  · simp [hi]
theorem tab_next {g : Int} (hg : genOk g = true) (f : Nat → Bool) (k c : Nat) :
    (tab g.toNat (deg g) (numF f k) * 2 ^ c) % 2 ^ deg g ^^^ tab g.toNat (deg g) ((tab g.toNat (deg g) (numF f k) * 2 ^ c) / 2 ^ deg g ^^^ numF (fun j => f (k + j)) c) = tab g.toNat (deg g) (numF f (k + c)) := by
  rw [numF_add, tab_more (deg_pow hg).1 (deg_pow hg).2 _ _ _ (numF_lt _ _)]
theorem afterStep_next (g : Int) (tb k c : Nat) (f : Nat → Bool) (cs : Array Value) (w : World) (hg : genOk g = true) (ht : w.heap[tb]? = some (.cells cs 69 (0, 0))) (hcs : IsTab cs g 16) (hc : c ≤ 4) :
    Calls Tryd.prog 64 #[.pointer (some ⟨tb, 0, none⟩), .int .i64 (tab g.toNat (deg g) (numF f k) : Nat), .int .i64 (numF (fun j => f (k + j)) c : Nat), .int .i64 c] w fun e w' =>
      e = .returned (.int .i64 (tab g.toNat (deg g) (numF f (k + c)) : Nat)) ∧ ∃ n, w' = w.drewN n := by
  have h := afterStep_any g tb (tab g.toNat (deg g) (numF f k)) (numF (fun j => f (k + j)) c) c cs w hg ht hcs (tab_lt hg _) hc (numF_lt _ _)
  rw [tab_next hg] at h
  exact h
theorem numberAt_next (P : Nat → Nat) (f : Nat → Bool) (k c : Nat) (w : World) (h : Packed P f) (hk : k % 4 = 0) (hc : c ≤ 4) (hkc : k + c ≤ 1024) (hk1 : k < 1024) :
    Calls Tryd.prog 55 #[.int .u64 (P (k / 64)), .int .i64 (k % 64 : Nat), .int .i64 c] w fun e w' => e = .returned (.int .i64 (numF (fun j => f (k + j)) c : Nat)) ∧ ∃ n, w' = w.drewN n := by
  have h2 := numberAt_any (P (k / 64)) (k % 64) c w (h.1 _ (by omega)) (by omega) hc
  rw [number_packed h hk hc hkc] at h2
  exact h2

set_option maxHeartbeats 1000000 in
theorem remainderOf_any (g : Int) (tb n : Nat) (cs ps : Array Value) (P : Nat → Nat) (f : Nat → Bool) (w : World) (hg : genOk g = true) (ht : w.heap[tb]? = some (.cells cs 69 (0, 0))) (hcs : IsTab cs g 16)
    (hp : IsPack ps P n) (hf : Packed P f) (hn : n ≤ 1024) :
    Calls Tryd.prog 58 #[.pointer (some ⟨tb, 0, none⟩), .agg ps] w fun e w' => e = .returned (.int .i64 (tab g.toNat (deg g) (numF f n) : Nat)) ∧ Below w.heap.size w w' := by
  have HG := Lib.hid hg
  have HC := Lib.hid hcs
  have HP := Lib.hid hp
  have HF := Lib.hid hf
  have HT : Hid ((w.alloc (.cells ps 46)).heap[tb]? = some (.cells cs 69 (0, 0))) :=
    (Below.heap_alloc w _ tb (Array.getElem?_eq_some_iff.1 ht).1).trans ht
  have HB : Hid (Below w.heap.size w (w.alloc (.cells ps 46))) := (Below.refl _ _).alloc (Nat.le_refl _) _
  have c16 : (w.alloc (.cells ps 46)).cell? ⟨w.heap.size, 16, none⟩ = some (.int .i64 n) := by
    rw [← hp.2.2]; exact cell_of_row _ _ _ _ _ _ (heap_alloc_last _ _)
  have CW : Hid (∀ i, i < 16 → (w.alloc (.cells ps 46)).cell? ⟨w.heap.size, i, none⟩ = some (.int .u64 (P i))) := fun i hi => by
    rw [← HP.out.2.1 i hi]; exact cell_of_row _ _ _ _ _ _ (heap_alloc_last _ _)
  have C16 := Lib.hid c16
  clear hg hcs hp hf ht c16
  go_enter Tryd.func58, Tryd.ntmps58
  go_wp2
  generalize w.alloc (.cells ps 46) = W at *
  go_loopw [5, 6] (fun r a wr => ∃ k j m : Nat, a = .int .i64 k ∧ k = 4 * j ∧ k ≤ 1028 ∧ r = .int .i64 (tab g.toNat (deg g) (numF f (min k n)) : Nat) ∧ wr = W.drewN m) (fun _ a _ => 1028 - (intOf a).toNat)
  case atStart => exact ⟨0, 0, 0, rfl, rfl, by omega, by simp [numF, tab_zero], rfl⟩
  case round =>
    obtain ⟨k, j, m, rfl, hkj, hk, rfl, rfl⟩ := hrel
    have HKJ := Lib.hid hkj
    clear hkj
    by_cases hlt : k < n
    · obtain ⟨c, hc⟩ : ∃ c, c = min 4 (n - k) := ⟨_, rfl⟩
      have hc4 : c ≤ 4 := by omega
      have hmc : min (4 : Int) ((n : Int) - (k : Int)) = (c : Int) := by omega
      have hkc : k + c ≤ 1024 := by omega
      have HE : Hid (min (k + 4) n = k + c) := by show _ = _; omega
      have hmin : min k n = k := by omega
      rw [hmin]
      have c16 : (W.drewN m).cell? ⟨w.heap.size, 16, none⟩ = some (.int .i64 n) := C16.out
      have cw : (W.drewN m).cell? ⟨w.heap.size, k / 64, none⟩ = some (.int .u64 (P (k / 64))) := CW.out _ (by omega)
      have HN := Lib.hid (numberAt_next P f k c (W.drewN m) HF.out (by have := HKJ.out; omega) hc4 hkc (by omega))
      clear hc hmin
      go_wp2_with fail
      refine HN.out.mono ?_
      rintro e w1 ⟨rfl, m1, rfl⟩
      clear c16 cw HN
      go_wp2_with fail
      refine (afterStep_next g tb k c f cs (W.drewN (m + m1)) HG.out HT.out HC.out hc4).mono ?_
      rintro e w2 ⟨rfl, m2, rfl⟩
      go_wp2
      go_roundw
      case rel => exact ⟨k + 4, j + 1, m + m1 + m2, by go_num, by have := HKJ.out; omega, by omega, by rw [HE.out], rfl⟩
      case measure => simp [intOf]; omega
    · have hmin : min k n = n := by omega
      rw [hmin]
      have c16 : (W.drewN m).cell? ⟨w.heap.size, 16, none⟩ = some (.int .i64 n) := C16.out
      clear hmin
      go_wp2
      go_ret
      exact ⟨rfl, below_drewN HB.out m⟩
end Go.Proofs.YtflplihhakepfaaDoor
