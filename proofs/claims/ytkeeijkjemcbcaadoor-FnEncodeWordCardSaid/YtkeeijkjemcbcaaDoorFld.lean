/-
  What the functions of the finite field answer, for all numbers and lists. Conditions: the program's two tables lie in their variables; a list that can be read.
-/
import Derived.Test.YtkeeijkjemcbcaaDoorFldMath
import Derived.Lib.LaidTab
namespace Go.Proofs.YtkeeijkjemcbcaaDoor
open Go.RowKit

/-- The variable fieldPowers holds the powers of 2; the variable fieldLogarithms the logarithms. -/
def PowTab (w : World) : Prop := 3 < w.heap.size ∧ ∀ i, i < 15 → w.cell? ⟨3, i, none⟩ = some (.int .i64 (el powL i))
def LogTab (w : World) : Prop := 2 < w.heap.size ∧ ∀ i, i < 16 → w.cell? ⟨2, i, none⟩ = some (.int .i64 (el logL i))
theorem PowTab.next {w w' : World} (h : PowTab w) (hb : Below w.heap.size w w') : PowTab w' := ⟨Nat.lt_of_lt_of_le h.1 hb.size, fun i hi => (hb.cell h.1).trans (h.2 i hi)⟩
theorem LogTab.next {w w' : World} (h : LogTab w) (hb : Below w.heap.size w w') : LogTab w' := ⟨Nat.lt_of_lt_of_le h.1 hb.size, fun i hi => (hb.cell h.1).trans (h.2 i hi)⟩
theorem PowTab.drewN {w : World} (h : PowTab w) (n : Nat) : PowTab (w.drewN n) := h
theorem LogTab.drewN {w : World} (h : LogTab w) (n : Nat) : LogTab (w.drewN n) := h
/-- Both tables. -/
def Tabs2 (w : World) : Prop := PowTab w ∧ LogTab w
theorem Tabs2.next {w w' : World} (h : Tabs2 w) (hb : Below w.heap.size w w') : Tabs2 w' := ⟨h.1.next hb, h.2.next hb⟩
theorem Tabs2.drewN {w : World} (h : Tabs2 w) (n : Nat) : Tabs2 (w.drewN n) := h
theorem Tabs2.pow {w : World} (h : Tabs2 w) {i : Nat} (hi : i < 15) : w.cell? ⟨3, i, none⟩ = some (.int .i64 (powN i : Int)) := by rw [h.1.2 i hi, powN_el hi]
theorem Tabs2.log {w : World} (h : Tabs2 w) {i : Nat} (hi : i < 16) : w.cell? ⟨2, i, none⟩ = some (.int .i64 (logN i : Int)) := by rw [h.2.2 i hi, logN_el hi]

theorem isElement_any (a : Int) (w : World) : Calls Tryd.prog 41 #[.int .i64 a] w fun e w' => e = .returned (.bool (elOk a)) ∧ w = w' := by
  by_cases h1 : 0 ≤ a <;> by_cases h2 : a < 16
  all_goals
    go_enter Tryd.func41, Tryd.ntmps41
    go_wp2
    go_ret
    exact ⟨by simp [elOk, *], rfl⟩

set_option maxHeartbeats 400000 in
theorem fieldProduct_any (a b : Nat) (w : World) (hT : Tabs2 w) (ha : a < 16) (hb : b < 16) :
    Calls Tryd.prog 53 #[.int .i64 a, .int .i64 b] w fun e w' => e = .returned (.int .i64 (fmul a b : Int)) ∧ ∃ n, w' = w.drewN n := by
  by_cases h0 : a = 0
  · have HE := Lib.hid (fmul_no (b := b) (.inl h0))
    have z : ((a : Int) == 0) = true := by simp [h0]
    clear hT h0
    go_enter Tryd.func53, Tryd.ntmps53
    go_wp2
    go_ret
    exact ⟨ret_int (by rw [HE.out]; rfl), 0, rfl⟩
  · have z : ((a : Int) == 0) = false := by simp; omega
    by_cases h1 : b = 0
    · have HE := Lib.hid (fmul_no (a := a) (.inr h1))
      have z1 : ((b : Int) == 0) = true := by simp [h1]
      clear hT h0 h1
      go_enter Tryd.func53, Tryd.ntmps53
      go_wp2
      go_ret
      exact ⟨ret_int (by rw [HE.out]; rfl), 0, rfl⟩
    · have z1 : ((b : Int) == 0) = false := by simp; omega
      have hc1 := hT.log ha
      have hc2 := hT.log hb
      have hl1 := logN_lt ha
      have hl2 := logN_lt hb
      have HE := Lib.hid (fmul_yes h0 h1)
      obtain ⟨p, hp⟩ : ∃ p, p = logN a := ⟨_, rfl⟩
      obtain ⟨q, hq⟩ : ∃ q, q = logN b := ⟨_, rfl⟩
      rw [← hp] at HE hc1 hl1
      rw [← hq] at HE hc2 hl2
      obtain ⟨i, hi⟩ : ∃ i, i = (p + q) % 15 := ⟨_, rfl⟩
      rw [← hi] at HE
      have hi15 : i < 15 := by rw [hi]; exact Nat.mod_lt _ (by omega)
      have hc3 := hT.pow hi15
      obtain ⟨s, hs⟩ : ∃ s, s = p + q := ⟨_, rfl⟩
      have r1 : IntKind.i64.wrap ((p : Int) + (q : Int)) = (s : Int) := by rw [IntKind.wrap_i64]; omega
      have r2 : (s : Int).tmod 15 = (i : Int) := by rw [Int.tmod_eq_emod_of_nonneg (by omega), hi, ← hs]; rfl
      clear hT h0 h1 hp hq hi hs
      go_enter Tryd.func53, Tryd.ntmps53
      go_wp2
      go_quiet (fail)
      clear r1 r2
      go_wp2
      go_ret
      exact ⟨ret_int (by rw [HE.out]), _, rfl⟩
end Go.Proofs.YtkeeijkjemcbcaaDoor
