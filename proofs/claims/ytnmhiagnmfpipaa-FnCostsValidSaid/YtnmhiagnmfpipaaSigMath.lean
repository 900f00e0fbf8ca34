/-
  Signals as lists of pairs: what is valid, the power, quarter turns, slices. No condition; plain lemmas.
-/
import Derived.Test.YtnmhiagnmfpipaaBase
namespace Go.Proofs.Ytnmhiagnmfpipaa
open Go.RowKit

/-- A sample: its two components. -/
abbrev Smp := Int × Int
def sp (ps : List Smp) (i : Nat) : Smp := ps.getD i (0, 0)
def sI (ps : List Smp) (i : Nat) : Int := (sp ps i).1
def sQ (ps : List Smp) (i : Nat) : Int := (sp ps i).2
theorem sp_lt {ps : List Smp} {i : Nat} (h : i < ps.length) : sp ps i = ps[i] := by simp [sp, h]
theorem sp_mem {ps : List Smp} {i : Nat} (h : i < ps.length) : sp ps i ∈ ps := by rw [sp_lt h]; exact List.getElem_mem h
theorem take_sp {ps : List Smp} {i : Nat} (h : i < ps.length) : ps.take (i + 1) = ps.take i ++ [sp ps i] := by rw [List.take_succ_eq_append_getElem h, sp_lt h]
theorem sp_eq (ps : List Smp) (i : Nat) : sp ps i = (sI ps i, sQ ps i) := rfl

def levOk (n : Int) : Bool := decide (-100000 ≤ n) && decide (n ≤ 100000)
def smpOk (p : Smp) : Bool := levOk p.1 && levOk p.2
def sigOk (ps : List Smp) : Bool := decide (ps.length ≤ 256) && ps.all smpOk
theorem levOk_yes {n : Int} (h : levOk n = true) : -100000 ≤ n ∧ n ≤ 100000 := by simpa [levOk] using h
theorem levOk_no {n : Int} (h : levOk n = false) : n < -100000 ∨ 100000 < n := by
  simp only [levOk, Bool.and_eq_false_iff, decide_eq_false_iff_not] at h; omega
theorem sigOk_len {ps : List Smp} (h : sigOk ps = true) : ps.length ≤ 256 := by
  simp only [sigOk, Bool.and_eq_true, decide_eq_true_eq] at h; exact h.1
theorem sigOk_all {ps : List Smp} (h : sigOk ps = true) {p : Smp} (hp : p ∈ ps) : smpOk p = true := by
  simp only [sigOk, Bool.and_eq_true, List.all_eq_true] at h; exact h.2 p hp
theorem sigOk_at {ps : List Smp} (h : sigOk ps = true) {i : Nat} (hi : i < ps.length) : (-100000 ≤ sI ps i ∧ sI ps i ≤ 100000) ∧ (-100000 ≤ sQ ps i ∧ sQ ps i ≤ 100000) := by
  have := sigOk_all h (sp_mem hi)
  simp only [smpOk, Bool.and_eq_true] at this
  exact ⟨levOk_yes this.1, levOk_yes this.2⟩
theorem sigOk_long {ps : List Smp} (h : 256 < ps.length) : sigOk ps = false := by simp [sigOk, show ¬ ps.length ≤ 256 by omega]
theorem sigOk_bad {ps : List Smp} {i : Nat} (hi : i < ps.length) (h : smpOk (sp ps i) = false) : sigOk ps = false := by
  cases e : sigOk ps
  · rfl
  · rw [sigOk_all e (sp_mem hi)] at h; cases h
theorem sigOk_take {ps : List Smp} (h : sigOk ps = true) (m : Nat) : sigOk (ps.take m) = true := by
  simp only [sigOk, Bool.and_eq_true, decide_eq_true_eq, List.all_eq_true] at h ⊢
  exact ⟨by rw [List.length_take]; omega, fun p hp => h.2 p (List.mem_of_mem_take hp)⟩
theorem sigOk_drop {ps : List Smp} (h : sigOk ps = true) (m : Nat) : sigOk (ps.drop m) = true := by
  simp only [sigOk, Bool.and_eq_true, decide_eq_true_eq, List.all_eq_true] at h ⊢
  exact ⟨by rw [List.length_drop]; omega, fun p hp => h.2 p (List.mem_of_mem_drop hp)⟩
theorem sigOk_snoc {ps : List Smp} {p : Smp} (h : smpOk p = false) : sigOk (ps ++ [p]) = false := by simp [sigOk, h]
/-- The first n samples are in the range. -/
def goodTo (ps : List Smp) (n : Nat) : Prop := ∀ i, i < n → smpOk (sp ps i) = true
theorem goodTo_next {ps : List Smp} {n : Nat} (h : goodTo ps n) (hn : smpOk (sp ps n) = true) : goodTo ps (n + 1) := fun i hi => by
  by_cases e : i = n
  · subst e; exact hn
  · exact h i (by omega)
theorem sigOk_good {ps : List Smp} (h : goodTo ps ps.length) (hl : ps.length ≤ 256) : sigOk ps = true := by
  simp only [sigOk, Bool.and_eq_true, decide_eq_true_eq, List.all_eq_true]
  refine ⟨hl, fun p hp => ?_⟩
  obtain ⟨i, hi, rfl⟩ := List.getElem_of_mem hp
  have := h i hi
  rwa [sp_lt hi] at this
theorem good_sig {ps : List Smp} (h : sigOk ps = true) {n : Nat} (hn : n ≤ ps.length) : goodTo ps n := fun i hi => sigOk_all h (sp_mem (by omega))

/-- The power. -/
def pw1 (p : Smp) : Int := p.1 * p.1 + p.2 * p.2
def sgw (ps : List Smp) : Int := (ps.map pw1).sum
def pwOr (ps : List Smp) : Int := if sigOk ps = true then sgw ps else -1
theorem sq_range {a : Int} (h : -100000 ≤ a ∧ a ≤ 100000) : 0 ≤ a * a ∧ a * a ≤ 10000000000 := by
  have e : a * a = ((a.natAbs * a.natAbs : Nat) : Int) := (Int.natAbs_mul_self (a := a)).symm
  have hm : a.natAbs * a.natAbs ≤ 100000 * 100000 := Nat.mul_le_mul (by omega) (by omega)
  rw [e]; omega
theorem pw1_range {p : Smp} (h : smpOk p = true) : 0 ≤ pw1 p ∧ pw1 p ≤ 20000000000 := by
  simp only [smpOk, Bool.and_eq_true] at h
  have h1 := sq_range (levOk_yes h.1)
  have h2 := sq_range (levOk_yes h.2)
  unfold pw1; omega
theorem pw_nil : sgw [] = 0 := rfl
theorem pw_cons (p : Smp) (ps : List Smp) : sgw (p :: ps) = pw1 p + sgw ps := by simp [sgw]
theorem pw_append (ps qs : List Smp) : sgw (ps ++ qs) = sgw ps + sgw qs := by simp [sgw]
theorem pw_take {ps : List Smp} {n : Nat} (h : n < ps.length) : sgw (ps.take (n + 1)) = sgw (ps.take n) + pw1 (sp ps n) := by rw [take_sp h, pw_append]; simp [sgw]
theorem pw_range : ∀ {ps : List Smp}, (∀ p ∈ ps, smpOk p = true) → 0 ≤ sgw ps ∧ sgw ps ≤ 20000000000 * ps.length
  | [], _ => by simp [sgw]
  | p :: ps, h => by
    have h1 := pw1_range (h p (by simp))
    have h2 := pw_range (ps := ps) fun q hq => h q (by simp [hq])
    rw [pw_cons, List.length_cons]; omega
theorem pw_take_range {ps : List Smp} (h : sigOk ps = true) (n : Nat) : 0 ≤ sgw (ps.take n) ∧ sgw (ps.take n) ≤ 5120000000000 := by
  have h1 := sigOk_len (sigOk_take h n)
  have h2 := pw_range (ps := ps.take n) fun p hp => sigOk_all (sigOk_take h n) hp
  omega
theorem pw1_zero {p : Smp} : pw1 p = 0 ↔ p = (0, 0) := by
  constructor
  · intro h
    unfold pw1 at h
    have h1 : 0 ≤ p.1 * p.1 := by rw [← Int.natAbs_mul_self]; omega
    have h2 : 0 ≤ p.2 * p.2 := by rw [← Int.natAbs_mul_self]; omega
    have e1 : p.1 * p.1 = 0 := by omega
    have e2 : p.2 * p.2 = 0 := by omega
    rcases Int.mul_eq_zero.1 e1 with e | e <;> rcases Int.mul_eq_zero.1 e2 with e' | e' <;> exact Prod.ext e e'
  · rintro rfl; rfl
theorem pw1_nonneg (p : Smp) : 0 ≤ pw1 p := by
  unfold pw1
  have h1 : 0 ≤ p.1 * p.1 := by rw [← Int.natAbs_mul_self]; omega
  have h2 : 0 ≤ p.2 * p.2 := by rw [← Int.natAbs_mul_self]; omega
  omega
theorem pw_nonneg : ∀ ps : List Smp, 0 ≤ sgw ps
  | [] => by simp [sgw]
  | p :: ps => by rw [pw_cons]; have := pw1_nonneg p; have := pw_nonneg ps; omega
def sigZero (ps : List Smp) : Bool := ps.all fun p => decide (p = (0, 0))
theorem pw_zeros : ∀ ps : List Smp, (sgw ps = 0) = (sigZero ps = true)
  | [] => by simp [sgw, sigZero]
  | p :: ps => by
    have h1 := pw1_nonneg p
    have h2 := pw_nonneg ps
    have h3 := pw_zeros ps
    have h4 := pw1_zero (p := p)
    rw [pw_cons]
    simp only [sigZero, List.all_cons, Bool.and_eq_true, decide_eq_true_eq] at h3 ⊢
    refine propext ⟨fun h => ?_, fun h => ?_⟩
    · exact ⟨h4.1 (by omega), h3 ▸ (show sgw ps = 0 by omega)⟩
    · have e1 := h4.2 h.1
      have e2 : sgw ps = 0 := by rw [h3]; exact h.2
      omega

/-- Quarter turns. -/
def turn1 (p : Smp) : Smp := (-p.2, p.1)
def turnN : Nat → Smp → Smp
  | 0, p => p
  | q + 1, p => turn1 (turnN q p)
def turnOr (ps : List Smp) (q : Int) : List Smp := if sigOk ps = true ∧ 0 ≤ q ∧ q ≤ 3 then ps.map (turnN q.toNat) else []
theorem turn1_ok {p : Smp} (h : smpOk p = true) : smpOk (turn1 p) = true := by
  simp only [smpOk, levOk, Bool.and_eq_true, decide_eq_true_eq] at h ⊢
  show (-100000 ≤ -p.2 ∧ -p.2 ≤ 100000) ∧ -100000 ≤ p.1 ∧ p.1 ≤ 100000
  omega
theorem turnN_ok {p : Smp} (h : smpOk p = true) : ∀ q, smpOk (turnN q p) = true
  | 0 => h
  | q + 1 => turn1_ok (turnN_ok h q)
theorem turn1_pw (p : Smp) : pw1 (turn1 p) = pw1 p := by
  unfold pw1 turn1
  show -p.2 * -p.2 + p.1 * p.1 = p.1 * p.1 + p.2 * p.2
  rw [Int.neg_mul_neg]; omega
theorem turnN_pw (p : Smp) : ∀ q, pw1 (turnN q p) = pw1 p
  | 0 => rfl
  | q + 1 => (turn1_pw _).trans (turnN_pw p q)
theorem turnN_add (p : Smp) (a : Nat) : ∀ b, turnN b (turnN a p) = turnN (a + b) p
  | 0 => rfl
  | b + 1 => by show turn1 (turnN b (turnN a p)) = turn1 (turnN (a + b) p); rw [turnN_add p a b]
theorem turnN_four (p : Smp) : turnN 4 p = p := by
  show (- -p.1, - -p.2) = p
  rw [Int.neg_neg, Int.neg_neg]
theorem sigOk_map {ps : List Smp} (h : sigOk ps = true) (q : Nat) : sigOk (ps.map (turnN q)) = true := by
  simp only [sigOk, Bool.and_eq_true, decide_eq_true_eq, List.all_eq_true, List.length_map, List.mem_map] at h ⊢
  refine ⟨h.1, ?_⟩
  rintro _ ⟨p, hp, rfl⟩
  exact turnN_ok (h.2 p hp) q
theorem pw_map (ps : List Smp) (q : Nat) : sgw (ps.map (turnN q)) = sgw ps := by
  simp only [sgw, List.map_map]
  congr 1
  exact List.map_congr_left fun p _ => turnN_pw p q
theorem turnOr_length (ps : List Smp) (q : Int) : (turnOr ps q).length ≤ ps.length := by unfold turnOr; split <;> simp
theorem turnOr_no {ps : List Smp} {q : Int} (h : sigOk ps = false) : turnOr ps q = [] := by simp [turnOr, h]
theorem turnOr_out {ps : List Smp} {q : Int} (h : ¬ (0 ≤ q ∧ q ≤ 3)) : turnOr ps q = [] := by simp [turnOr, h]
theorem turnOr_yes {ps : List Smp} {Q : Nat} (h : sigOk ps = true) (hq : Q ≤ 3) : turnOr ps (Q : Int) = ps.map (turnN Q) := by
  unfold turnOr
  rw [if_pos ⟨h, by omega, by omega⟩, Int.toNat_natCast]
theorem map_take_sp {ps : List Smp} {n : Nat} (f : Smp → Smp) (h : n < ps.length) : (ps.take (n + 1)).map f = (ps.take n).map f ++ [f (sp ps n)] := by rw [take_sp h]; simp
end Go.Proofs.Ytnmhiagnmfpipaa
