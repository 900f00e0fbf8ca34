/-
  What RaiseRate, LowerRate and their models answer, for all arguments. Condition: the list can be read; the models: its length can be.
-/
import Derived.Test.YtckjlonlkckhdaaSeq3
namespace Go.Proofs.Ytckjlonlkckhdaa
open Go.RowKit

def facOk (n : Int) : Bool := decide (1 ≤ n) && decide (n ≤ 8)
theorem facOk_yes {n : Int} (h : facOk n = true) : ∃ N : Nat, n = (N : Int) ∧ 1 ≤ N ∧ N ≤ 8 := by
  simp only [facOk, Bool.and_eq_true, decide_eq_true_eq] at h
  exact ⟨n.toNat, by omega, by omega, by omega⟩
theorem l1In_fac (n : Int) (w : World) (b : Bool) (h : facOk n = b) : Calls Try.prog 42 #[.int .i64 n, .int .i64 1, .int .i64 8] w fun e w' => e = .returned (.bool b) ∧ w = w' := by
  subst h; exact l1In_any n 1 8 w
/-- A row that is being raised: the first k numbers lie in it. -/
def raiX (xs : List Int) (N k j : Nat) : Int := if j / N < k then raiN xs N j else 0
theorem row_rai {w : World} {b : Nat} {t : TypeId} {n N k : Nat} {xs : List Int} (hN : 1 ≤ N) (h : w.rowIs b t n fun j => .int .i64 (raiX xs N k j)) :
    (w.setCell ⟨b, k * N, none⟩ (.int .i64 (el xs k))).rowIs b t n fun j => .int .i64 (raiX xs N (k + 1) j) :=
  (h.set (k * N) (.int .i64 (el xs k))).congr fun j _ => by
    unfold raiX raiN
    by_cases e : j = k * N
    · subst e
      have h1 : k * N / N = k := Nat.mul_div_cancel _ (by omega)
      have h2 : k * N % N = 0 := Nat.mul_mod_left _ _
      simp [h1, h2]
    · simp only [e, if_false]
      by_cases h2 : j / N = k
      · have h3 : j % N ≠ 0 := fun h3 => e (by have := Nat.div_add_mod j N; rw [h2, h3, Nat.mul_comm] at this; omega)
        simp [h2, h3]
      · by_cases h4 : j / N < k
        · simp [h4, Nat.lt_succ_of_lt h4]
        · simp [h4, show ¬ j / N < k + 1 by omega]
theorem raiX_done {xs : List Int} {N j : Nat} (hN : 1 ≤ N) (hj : j < xs.length * N) : raiX xs N xs.length j = el (rai xs N) j := by
  have h1 : j / N < xs.length := (Nat.div_lt_iff_lt_mul (by omega)).2 hj
  rw [raiX, if_pos h1, rai, el_map hj]

section
variable {w : World} {ops : Array Oper} {rest : List Oper} {o : Oper} {a : Act} {Q : Exit → Act → World → Prop}
theorem wpList_appendQ1 (s x : Operand) (base : Nat) (A : Option Addr) (n cap : Nat) (xs : List Int) (ad : Addr) (v : Int)
    (hgd : o.guard = none) (ho : o.op = .call { callee := .builtin .append, args := #[s, x], argTypes := #[44, 44] }) (hs : a.eval s = .slice A n cap) (hx : a.eval x = .slice (some ad) 1 1)
    (hg : Grow .i64 3 w base A n cap xs) (hc : w.cell? ad = some (.int .i64 v)) (hn : n < 1099511627776) (hb : base ≤ w.heap.size)
    (h : ∀ a' cap' w', Grow .i64 3 w' base a' (n + 1) cap' (xs ++ [v]) → Below base w w' → wpList Try.prog ops Q rest (a.put o.dst (.slice a' (n + 1) cap')) w') : wpList Try.prog ops Q (o :: rest) a w := by
  obtain ⟨i0, hi0, hz0, hz1, hz2⟩ := info_parts Try.infoInt
  refine wpList_append_own w hgd s x _ ho base 3 i0 (.int .i64 0) 1 8 Try.underlying44 hi0 hz0 hz1 hz2 rfl (by omega) _ n _ hs hg ad 1 1 [.int .i64 v] hx rfl ?_ (by simp [Value.oneCell']) (by unfold maxLen; omega) (by omega) hb ?_
  · intro j u hj
    match j, hj with
    | 0, hj => simp at hj; subst hj; simpa [Addr.add] using hc
  · intro v' w' h2 h3 _
    obtain ⟨a', cap', rfl, hgr, hbl⟩ := grow_of_own hg hb h2 h3
    exact h _ _ _ hgr hbl
end
theorem lowOr_fac {xs : List Int} {n p : Int} (h : facOk n = false) : lowOr xs n p = [] := lowOr_no fun h' => by
  have : facOk n = true := by simp [facOk, h'.2.1, h'.2.2.1]
  rw [h] at this; cases this
theorem l1In_is (n lo hi : Int) (w : World) (b : Bool) (h : (decide (lo ≤ n) && decide (n ≤ hi)) = b) : Calls Try.prog 42 #[.int .i64 n, .int .i64 lo, .int .i64 hi] w fun e w' => e = .returned (.bool b) ∧ w = w' := by
  subst h; exact l1In_any n lo hi w
end Go.Proofs.Ytckjlonlkckhdaa
