/-
  What reading some bits of a word as a number answers, and the division's table. Conditions: the places lie in the word; the polynomial is valid.
-/
import Derived.Test.YtmolpeemifngcaaGen
import Derived.Test.YtmolpeemifngcaaPoly
import Derived.Test.YtmolpeemifngcaaImpl2
namespace Go.Proofs.Ytmolpeemifngcaa
open Go.RowKit

theorem mask_count {count : Nat} (hc : count ≤ 4) : IntKind.u64.wrap (IntKind.u64.wrap ((2 : Int) ^ count) - 1) = ((2 ^ count - 1 : Nat) : Int) := by
  have : count = 0 ∨ count = 1 ∨ count = 2 ∨ count = 3 ∨ count = 4 := by omega
  rcases this with rfl | rfl | rfl | rfl | rfl <;> rfl
theorem number_eq {W place count : Nat} (hW : W < 2 ^ 64) (hc : count ≤ 4) :
    wrap64 (bits BinOp.and IntKind.u64 ((W : Int) / 2 ^ (64 - count - place)) (IntKind.u64.wrap (IntKind.u64.wrap ((2 : Int) ^ count) - 1))) = ((W / 2 ^ (64 - count - place) % 2 ^ count : Nat) : Int) := by
  have h2 : ((W : Int) / 2 ^ (64 - count - place)) = ((W / 2 ^ (64 - count - place) : Nat) : Int) := by
    rw [Int.natCast_ediv, Int.natCast_pow]; rfl
  have hlt : W / 2 ^ (64 - count - place) ≤ W := Nat.div_le_self _ _
  have hp : 2 ^ count ≤ 2 ^ 4 := Nat.pow_le_pow_right (by omega) hc
  rw [mask_count hc, h2, u64_and_nat _ _ (by omega) (by omega), Nat.and_two_pow_sub_one_eq_mod]
  have hm : W / 2 ^ (64 - count - place) % 2 ^ count < 2 ^ count := Nat.mod_lt _ (Nat.two_pow_pos _)
  generalize W / 2 ^ (64 - count - place) % 2 ^ count = q at *
  exact wrap64_in (by omega)
set_option maxHeartbeats 400000 in
theorem numberAt_any (W place count : Nat) (w : World) (hW : W < 2 ^ 64) (hp : place + count ≤ 64) (hc : count ≤ 4) :
    Calls Try.prog 51 #[.int .u64 W, .int .i64 place, .int .i64 count] w fun e w' => e = .returned (.int .i64 ((W / 2 ^ (64 - count - place)) % 2 ^ count : Nat)) ∧ ∃ n, w' = w.drewN n := by
  have HE := Lib.hid (number_eq (place := place) hW hc)
  go_enter Try.func51, Try.ntmps51
  go_wp2
  go_quiet (fail)
  go_wp2
  go_ret
  exact ⟨ret_int HE.out, _, rfl⟩

/-- The 17 cells of a table: the degree, then the remainders of the numbers below k (0 behind). -/
def IsTab (cs : Array Value) (g : Int) (k : Nat) : Prop :=
  cs.size = 17 ∧ cs[0]? = some (.int .i64 (deg g)) ∧ ∀ i, i < 16 → cs[1 + i]? = some (.int .i64 ((if i < k then tab g.toNat (deg g) i else 0 : Nat)))
theorem isTab_set {cs : Array Value} {g : Int} {k v : Nat} (h : IsTab cs g k) (hk : k < 16) (hv : v = tab g.toNat (deg g) k) : IsTab (cs.setIfInBounds (1 + k) (.int .i64 (v : Int))) g (k + 1) := by
  obtain ⟨h1, h2, h3⟩ := h
  refine ⟨by simpa using h1, ?_, fun j hj => ?_⟩
  · rw [Array.getElem?_setIfInBounds]; simp [h2]
  · rw [Array.getElem?_setIfInBounds]
    by_cases e : k = j
    · subst e; simp [h1, hv]; omega
    · rw [if_neg (by omega), h3 j hj]
      have e2 : (j < k) ↔ (j < k + 1) := by omega
      simp [e2]
theorem tab_one {cs : Array Value} {g : Int} {k : Nat} (h : IsTab cs g k) : cs.all (·.oneCell') = true := by
  obtain ⟨h1, h2, h3⟩ := h
  rw [Array.all_eq_true]
  intro i hi
  by_cases e : i = 0
  · subst e
    rw [Array.getElem?_eq_getElem hi] at h2
    injection h2 with h2
    rw [h2]; rfl
  · obtain ⟨j, rfl⟩ : ∃ j, i = 1 + j := ⟨i - 1, by omega⟩
    have := h3 j (by omega)
    rw [Array.getElem?_eq_getElem hi] at this
    injection this with this
    rw [this]; rfl
theorem tab_lt {g : Int} (h : genOk g = true) (n : Nat) : tab g.toNat (deg g) n < 2 ^ deg g := pm_lt (deg_pow h).1 (deg_pow h).2 _
theorem pow_deg {g : Int} (h : genOk g = true) : 2 ^ deg g ≤ 65536 := by
  have : 2 ^ deg g ≤ 2 ^ 16 := Nat.pow_le_pow_right (by omega) (deg_lt h).2
  omega
/-- One entry more, as the program reckons it: case by case. -/
theorem entry_even {g : Int} (h : genOk g = true) {k : Nat} (hk : k % 2 = 0) : tab g.toNat (deg g) k = stp g.toNat (deg g) (2 * tab g.toNat (deg g) (k / 2)) := by
  have := tab_step (g := g.toNat) (deg_lt h).1 (k / 2) 0 (by omega)
  rw [show 2 * (k / 2) + 0 = k by omega] at this
  simpa using this
theorem entry_odd {g : Int} (h : genOk g = true) {k : Nat} (hk : k % 2 = 1) : tab g.toNat (deg g) k = stp g.toNat (deg g) ((2 * tab g.toNat (deg g) (k / 2)) ^^^ 2 ^ deg g) := by
  have := tab_step (g := g.toNat) (deg_lt h).1 (k / 2) 1 (by omega)
  rw [show 2 * (k / 2) + 1 = k by omega] at this
  simpa using this
theorem and_pow (t d : Nat) : (t &&& 2 ^ d != 0) = t.testBit d := by
  cases h : t.testBit d
  · have h0 : t &&& 2 ^ d = 0 := by
      apply Nat.eq_of_testBit_eq
      intro i
      rw [Nat.testBit_and, Nat.testBit_two_pow]
      by_cases e : d = i
      · subst e; simp [h]
      · simp [e]
    simp [h0]
  · have h0 : (t &&& 2 ^ d).testBit d = true := by rw [Nat.testBit_and, Nat.testBit_two_pow]; simp [h]
    have h1 : t &&& 2 ^ d ≠ 0 := fun e => by rw [e] at h0; simp at h0
    simp [h1]
theorem i64_test {t d : Nat} (ht : t < 2 ^ 63) (hd : d ≤ 16) : (bits .and .i64 (t : Int) ((2 ^ d : Nat) : Int) != 0) = t.testBit d := by
  have hp : 2 ^ d ≤ 2 ^ 16 := Nat.pow_le_pow_right (by omega) hd
  rw [i64_and t (2 ^ d) ht (by omega), ← and_pow]
  rw [Bool.eq_iff_iff]
  simp only [bne_iff_ne, ne_eq]
  omega
theorem heap_prev_set {w : World} {b i : Nat} {v : Value} {o : Obj} (h : w.heap[b]? = some o) {c : Nat} (hne : b ≠ c) : (w.setCell ⟨c, i, none⟩ v).heap[b]? = some o :=
  (Below.heap_setCell w ⟨c, i, none⟩ v b hne).trans h
end Go.Proofs.Ytmolpeemifngcaa
