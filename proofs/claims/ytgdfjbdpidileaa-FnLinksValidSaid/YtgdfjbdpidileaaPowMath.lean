/-
  Least powers: a monotone step, repeated from zeros, comes to its least fixed point: mathematics. No condition; plain lemmas.
-/
import Derived.Test.YtgdfjbdpidileaaSeqMath3
namespace Go.Proofs.Ytgdfjbdpidileaa
open Go.RowKit

theorem sqS_le {f g : Nat → Int} : ∀ {n : Nat}, (∀ i, i < n → f i ≤ g i) → sqS f n ≤ sqS g n
  | 0, _ => Int.le_refl _
  | n + 1, h => by
    have h1 := sqS_le (n := n) fun i hi => h i (by omega)
    have h2 := h n (by omega)
    show sqS f n + f n ≤ sqS g n + g n
    omega
/-- Links: gains, noise, target, how many. -/
structure Lk where
  G : Nat → Nat → Int
  N : Int
  T : Int
  n : Nat
/-- Links whose numbers are in their ranges. -/
structure Lk.Ok (x : Lk) : Prop where
  n1 : 1 ≤ x.n
  n8 : x.n ≤ 8
  N1 : 1 ≤ x.N ∧ x.N ≤ 1000
  T1 : 1 ≤ x.T ∧ x.T ≤ 100
  G0 : ∀ i j, i < x.n → j < x.n → 0 ≤ x.G i j ∧ x.G i j ≤ 1000
  G1 : ∀ i, i < x.n → 1 ≤ x.G i i
def Lk.ds (x : Lk) (p : Nat → Int) (i : Nat) : Int := x.N + sqS (fun j => if j = i then 0 else x.G i j * p j) x.n
def Lk.need (x : Lk) (p : Nat → Int) (i : Nat) : Int := x.T * x.ds p i
def Lk.g (x : Lk) (i : Nat) : Int := 10 * x.G i i
/-- A quotient, rounded up. -/
def up (a b : Int) : Int := (a + b - 1) / b
theorem up_le {a b c : Int} (hb : 0 < b) : up a b ≤ c ↔ a ≤ b * c := by
  unfold up
  rw [← Int.lt_add_one_iff, Int.ediv_lt_iff_lt_mul hb, Int.add_mul, Int.one_mul, Int.mul_comm c b]
  omega
theorem up_mono {a a' b : Int} (hb : 0 < b) (h : a ≤ a') : up a b ≤ up a' b := Int.ediv_le_ediv hb (by omega)
theorem up_self {a b : Int} (hb : 0 < b) : a ≤ b * up a b := (up_le hb).1 (Int.le_refl _)
theorem up_one {a b : Int} (hb : 0 < b) (h : 1 ≤ a) : 1 ≤ up a b := by
  have h1 : ¬ up a b ≤ 0 := fun h2 => by
    have := (up_le hb).1 h2
    rw [Int.mul_zero] at this
    omega
  omega
def Lk.st (x : Lk) (M : Int) (p : Nat → Int) (i : Nat) : Int := if up (x.need p i) (x.g i) < M then up (x.need p i) (x.g i) else M
def Lk.meet (x : Lk) (p : Nat → Int) : Prop := ∀ i, i < x.n → x.need p i ≤ x.g i * p i
section
variable {x : Lk} {M : Int} {p q : Nat → Int}
theorem Lk.Ok.g_pos (h : x.Ok) {i : Nat} (hi : i < x.n) : 0 < x.g i := by
  have := h.G1 i hi
  unfold Lk.g; omega
theorem Lk.ds_mono (h : x.Ok) (hpq : ∀ j, j < x.n → p j ≤ q j) {i : Nat} (hi : i < x.n) : x.ds p i ≤ x.ds q i := by
  unfold Lk.ds
  have := sqS_le (f := fun j => if j = i then 0 else x.G i j * p j) (g := fun j => if j = i then 0 else x.G i j * q j) (n := x.n) fun j hj => by
    show (if j = i then 0 else x.G i j * p j) ≤ if j = i then 0 else x.G i j * q j
    by_cases e : j = i
    · rw [if_pos e, if_pos e]; exact Int.le_refl _
    · rw [if_neg e, if_neg e]; exact Int.mul_le_mul_of_nonneg_left (hpq j hj) (h.G0 i j hi hj).1
  omega
theorem Lk.need_mono (h : x.Ok) (hpq : ∀ j, j < x.n → p j ≤ q j) {i : Nat} (hi : i < x.n) : x.need p i ≤ x.need q i :=
  Int.mul_le_mul_of_nonneg_left (Lk.ds_mono h hpq hi) (by have := h.T1; omega)
theorem Lk.st_mono (h : x.Ok) (hpq : ∀ j, j < x.n → p j ≤ q j) {i : Nat} (hi : i < x.n) : x.st M p i ≤ x.st M q i := by
  have := up_mono (h.g_pos hi) (Lk.need_mono h hpq hi)
  unfold Lk.st
  split <;> split <;> omega
theorem Lk.st_le (x : Lk) (M : Int) (p : Nat → Int) (i : Nat) : x.st M p i ≤ M := by
  unfold Lk.st
  split <;> omega
theorem Lk.ds_pos (h : x.Ok) (hp : ∀ j, j < x.n → 0 ≤ p j) {i : Nat} (hi : i < x.n) : 1 ≤ x.ds p i := by
  have h1 := sqS_nonneg (f := fun j => if j = i then 0 else x.G i j * p j) (n := x.n) fun j hj => by
    show 0 ≤ if j = i then 0 else x.G i j * p j
    split
    · exact Int.le_refl _
    · exact Int.mul_nonneg (h.G0 i j hi hj).1 (hp j hj)
  have := h.N1
  unfold Lk.ds
  omega
theorem Lk.need_pos (h : x.Ok) (hp : ∀ j, j < x.n → 0 ≤ p j) {i : Nat} (hi : i < x.n) : 1 ≤ x.need p i := by
  have h1 := Lk.ds_pos h hp hi
  have h2 := h.T1
  have h3 : 1 * 1 ≤ x.T * x.ds p i := Int.mul_le_mul h2.1 h1 (by decide) (by omega)
  unfold Lk.need
  omega
theorem Lk.st_pos (h : x.Ok) (hM : 1 ≤ M) (hp : ∀ j, j < x.n → 0 ≤ p j) {i : Nat} (hi : i < x.n) : 1 ≤ x.st M p i := by
  have := up_one (h.g_pos hi) (Lk.need_pos h hp hi)
  unfold Lk.st
  split <;> omega
/-- Powers that reach the target need not be increased. -/
theorem Lk.st_meet (h : x.Ok) (hm : x.meet p) {i : Nat} (hi : i < x.n) : x.st M p i ≤ p i := by
  have := (up_le (h.g_pos hi)).2 (hm i hi)
  unfold Lk.st
  split <;> omega
/-- A fixed point below the greatest power reaches the target. -/
theorem Lk.meet_fix (h : x.Ok) (hf : ∀ i, i < x.n → x.st M p i = p i) (hlt : ∀ i, i < x.n → x.st M p i < M) : x.meet p := fun i hi => by
  have h1 := hf i hi
  have h2 := hlt i hi
  unfold Lk.st at h1 h2
  split at h1
  · rw [← h1]; exact up_self (h.g_pos hi)
  · next hn => rw [if_neg hn] at h2; omega
/-- The steps from zeros. -/
def Lk.it (x : Lk) (M : Int) : Nat → Nat → Int
  | 0 => fun _ => 0
  | k + 1 => x.st M (x.it M k)
theorem Lk.it_in (h : x.Ok) (hM : 1 ≤ M) : ∀ k i, i < x.n → 0 ≤ x.it M k i ∧ x.it M k i ≤ M
  | 0, _, _ => ⟨Int.le_refl _, by show (0 : Int) ≤ M; omega⟩
  | k + 1, i, hi => ⟨by have := Lk.st_pos h hM (fun j hj => (Lk.it_in h hM k j hj).1) hi; show 0 ≤ x.st M (x.it M k) i; omega, Lk.st_le _ _ _ _⟩
theorem Lk.it_up (h : x.Ok) (hM : 1 ≤ M) : ∀ k i, i < x.n → x.it M k i ≤ x.it M (k + 1) i
  | 0, i, hi => (Lk.it_in h hM 1 i hi).1
  | k + 1, _, hi => Lk.st_mono h (fun j hj => Lk.it_up h hM k j hj) hi
/-- Every step is below powers that reach the target. -/
theorem Lk.it_meet (h : x.Ok) (hq0 : ∀ j, j < x.n → 0 ≤ q j) (hm : x.meet q) : ∀ k i, i < x.n → x.it M k i ≤ q i
  | 0, i, hi => hq0 i hi
  | k + 1, _, hi => Int.le_trans (Lk.st_mono h (fun j hj => Lk.it_meet h hq0 hm k j hj) hi) (Lk.st_meet h hm hi)
/-- What is left to climb. -/
def Lk.rest (x : Lk) (M : Int) (k : Nat) : Int := sqS (fun i => M - x.it M k i) x.n
theorem Lk.rest_pos (h : x.Ok) (hM : 1 ≤ M) (k : Nat) : 0 ≤ x.rest M k := sqS_nonneg fun i hi => by
  have := Lk.it_in h hM k i hi
  show 0 ≤ M - x.it M k i
  omega
theorem sqS_lt {f g : Nat → Int} : ∀ {n : Nat}, (∀ i, i < n → f i ≤ g i) → (∃ i, i < n ∧ f i ≠ g i) → sqS f n < sqS g n
  | 0, _, ⟨i, hi, _⟩ => absurd hi (by omega)
  | n + 1, h, ⟨i, hi, hne⟩ => by
    have h2 := h n (by omega)
    show sqS f n + f n < sqS g n + g n
    by_cases e : f n = g n
    · have : i ≠ n := fun e2 => hne (by rw [e2]; exact e)
      have h1 := sqS_lt (n := n) (fun i hi => h i (by omega)) ⟨i, by omega, hne⟩
      omega
    · have h1 := sqS_le (f := f) (g := g) (n := n) fun i hi => h i (by omega)
      omega
/-- A step that changes something leaves less to climb. -/
theorem Lk.rest_lt (h : x.Ok) (hM : 1 ≤ M) {k : Nat} (hne : ∃ i, i < x.n ∧ x.it M k i ≠ x.it M (k + 1) i) : x.rest M (k + 1) < x.rest M k := by
  obtain ⟨i, hi, hn⟩ := hne
  exact sqS_lt (fun i hi => by
    have := Lk.it_up h hM k i hi
    show M - x.it M (k + 1) i ≤ M - x.it M k i
    omega) ⟨i, hi, fun e => hn (by
    have e2 : M - x.it M (k + 1) i = M - x.it M k i := e
    omega)⟩
/-- The last step. -/
def Lk.done (x : Lk) (M : Int) (k : Nat) : Prop := ∀ i, i < x.n → x.it M k i = x.it M (k + 1) i
/-- If some powers reach the target, the last ones do, and they are below them. -/
theorem Lk.done_meet (h : x.Ok) {k : Nat} (hd : x.done M k) (hq : ∀ j, j < x.n → 0 ≤ q j ∧ q j ≤ M) (hm : x.meet q) : x.meet (x.it M k) ∧ ∀ i, i < x.n → x.it M k i ≤ q i := by
  have hle := fun i hi => Lk.it_meet (M := M) h (fun j hj => (hq j hj).1) hm k i hi
  refine ⟨fun i hi => ?_, hle⟩
  have h1 : up (x.need (x.it M k) i) (x.g i) ≤ q i := (up_le (h.g_pos hi)).2 (Int.le_trans (Lk.need_mono h hle hi) (hm i hi))
  have h2 : x.it M k i = x.st M (x.it M k) i := hd i hi
  have h3 : up (x.need (x.it M k) i) (x.g i) ≤ x.it M k i := by
    rw [h2]
    have := (hq i hi).2
    unfold Lk.st
    split <;> omega
  exact (up_le (h.g_pos hi)).1 h3
/-- Two last steps are the same powers. -/
theorem Lk.done_later (_h : x.Ok) {k : Nat} (hd : x.done M k) : ∀ m i, i < x.n → x.it M (k + m) i = x.it M k i
  | 0, _, _ => rfl
  | m + 1, i, hi => by
    have ih := Lk.done_later _h hd m
    have e : x.st M (x.it M (k + m)) i = x.st M (x.it M k) i := by
      have hn : x.need (x.it M (k + m)) i = x.need (x.it M k) i := by
        unfold Lk.need Lk.ds
        rw [sqS_congr (g := fun j => if j = i then 0 else x.G i j * x.it M k j) fun j hj => by rw [ih j hj]]
      unfold Lk.st
      rw [hn]
    show x.st M (x.it M (k + m)) i = _
    rw [e]
    exact (hd i hi).symm
theorem Lk.done_same (h : x.Ok) {k m : Nat} (hk : x.done M k) (hm : x.done M m) {i : Nat} (hi : i < x.n) : x.it M k i = x.it M m i := by
  rcases Nat.le_total k m with hle | hle
  · obtain ⟨d, rfl⟩ := Nat.exists_eq_add_of_le hle
    exact (Lk.done_later h hk d i hi).symm
  · obtain ⟨d, rfl⟩ := Nat.exists_eq_add_of_le hle
    exact Lk.done_later h hm d i hi
/-- One less anywhere does not reach the target. -/
theorem Lk.done_less (h : x.Ok) {k : Nat} (hq : ∀ j, j < x.n → 0 ≤ q j) (hlt : ∃ i, i < x.n ∧ q i < x.it M k i) : ¬ x.meet q := fun hm => by
  obtain ⟨i, hi, h1⟩ := hlt
  have := Lk.it_meet (M := M) h hq hm k i hi
  omega
/-- A lower target is reached, too. -/
theorem Lk.meet_lower (h : x.Ok) (hp : ∀ j, j < x.n → 0 ≤ p j) {T' : Int} (hT : T' ≤ x.T) (hm : x.meet p) : Lk.meet { x with T := T' } p := fun i hi => by
  refine Int.le_trans ?_ (hm i hi)
  show T' * x.ds p i ≤ x.T * x.ds p i
  exact Int.mul_le_mul_of_nonneg_right hT (by have := Lk.ds_pos h hp hi; omega)
/-- Less noise needs no more power. -/
theorem Lk.meet_noise (h : x.Ok) {N' : Int} (hN : N' ≤ x.N) (hm : x.meet p) : Lk.meet { x with N := N' } p := fun i hi => by
  refine Int.le_trans ?_ (hm i hi)
  show x.T * (N' + _) ≤ x.T * (x.N + _)
  exact Int.mul_le_mul_of_nonneg_left (Int.add_le_add_right hN _) (by have := h.T1; omega)
end
end Go.Proofs.Ytgdfjbdpidileaa
