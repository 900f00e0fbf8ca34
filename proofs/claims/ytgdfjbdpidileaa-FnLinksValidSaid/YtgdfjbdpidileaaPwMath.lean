/-
  Links as lists: when links and powers are valid, what the functions of chapter 14 answer, and the answer of LeastPowers. Mathematics: no condition; plain lemmas.
-/
import Derived.Test.YtgdfjbdpidileaaPowMath
import Derived.Test.YtgdfjbdpidileaaWsMath
namespace Go.Proofs.Ytgdfjbdpidileaa
open Go.RowKit

/-- Row i of rows of numbers. -/
def rwI (R : List (List Int)) (i : Nat) : List Int := R.getD i []
def RowIn (n : Nat) (g : List Int) : Prop := ∀ j, j < n → 0 ≤ el g j ∧ el g j ≤ 1000
def RowOk (n i : Nat) (g : List Int) : Prop := g.length = n ∧ RowIn n g ∧ 1 ≤ el g i
def LkOk (R : List (List Int)) (N T : Int) : Prop := (1 ≤ R.length ∧ R.length ≤ 5) ∧ (1 ≤ N ∧ N ≤ 1000) ∧ (1 ≤ T ∧ T ≤ 100) ∧ ∀ i, i < R.length → RowOk R.length i (rwI R i)
def PwIn (n : Nat) (P : List Int) : Prop := ∀ j, j < n → 0 ≤ el P j ∧ el P j ≤ 10000
def PwOk (n : Nat) (P : List Int) : Prop := P.length = n ∧ PwIn n P
instance (n : Nat) (g : List Int) : Decidable (RowIn n g) := inferInstanceAs (Decidable (∀ j, j < n → 0 ≤ el g j ∧ el g j ≤ 1000))
instance (n i : Nat) (g : List Int) : Decidable (RowOk n i g) := inferInstanceAs (Decidable (_ ∧ _ ∧ _))
instance (R : List (List Int)) (N T : Int) : Decidable (LkOk R N T) := inferInstanceAs (Decidable (_ ∧ _ ∧ _ ∧ ∀ i, i < R.length → RowOk R.length i (rwI R i)))
instance (n : Nat) (P : List Int) : Decidable (PwIn n P) := inferInstanceAs (Decidable (∀ j, j < n → 0 ≤ el P j ∧ el P j ≤ 10000))
instance (n : Nat) (P : List Int) : Decidable (PwOk n P) := inferInstanceAs (Decidable (_ ∧ _))
/-- Links as functions. -/
def lkOf (R : List (List Int)) (N T : Int) : Lk := ⟨fun i j => el (rwI R i) j, N, T, R.length⟩
theorem lkOf_ok {R : List (List Int)} {N T : Int} (h : LkOk R N T) : (lkOf R N T).Ok :=
  ⟨h.1.1, by have := h.1.2; show R.length ≤ 8; omega, h.2.1, h.2.2.1, fun i j hi hj => (h.2.2.2 i hi).2.1 j hj, fun i hi => (h.2.2.2 i hi).2.2⟩
theorem rowIn_next {k : Nat} {g : List Int} (h : RowIn k g) (h1 : 0 ≤ el g k ∧ el g k ≤ 1000) : RowIn (k + 1) g := fun j hj => by
  rcases Nat.lt_succ_iff_lt_or_eq.1 hj with h2 | rfl
  · exact h j h2
  · exact h1
theorem pwIn_next {k : Nat} {g : List Int} (h : PwIn k g) (h1 : 0 ≤ el g k ∧ el g k ≤ 10000) : PwIn (k + 1) g := fun j hj => by
  rcases Nat.lt_succ_iff_lt_or_eq.1 hj with h2 | rfl
  · exact h j h2
  · exact h1
/-- Noise and disturbing power of the first k senders. -/
def dsn (R : List (List Int)) (N : Int) (P : List Int) (i k : Nat) : Int := N + sqS (fun j => if j = i then 0 else el (rwI R i) j * el P j) k
theorem dsn_same {R : List (List Int)} {N : Int} {P : List Int} {i : Nat} : dsn R N P i (i + 1) = dsn R N P i i := by
  show N + (sqS _ i + if i = i then 0 else _) = N + sqS _ i
  rw [if_pos rfl, Int.add_zero]
theorem dsn_next {R : List (List Int)} {N : Int} {P : List Int} {i k : Nat} (h : k ≠ i) : dsn R N P i (k + 1) = dsn R N P i k + el (rwI R i) k * el P k := by
  show N + (sqS _ k + if k = i then 0 else _) = N + sqS _ k + _
  rw [if_neg h, Int.add_assoc]
theorem dsn_in {R : List (List Int)} {N T : Int} {P : List Int} {i : Nat} (h : LkOk R N T) (hp : PwOk R.length P) (hi : i < R.length) : ∀ k, k ≤ R.length → 1 ≤ dsn R N P i k ∧ dsn R N P i k ≤ 1000 + 10000000 * k
  | 0, _ => by
    have := h.2.1
    show 1 ≤ N + 0 ∧ N + 0 ≤ 1000 + 10000000 * ((0 : Nat) : Int)
    omega
  | k + 1, hk => by
    have ih := dsn_in h hp hi k (by omega)
    by_cases e : k = i
    · subst e
      rw [dsn_same]
      omega
    · rw [dsn_next e]
      have h1 := (h.2.2.2 i hi).2.1 k (by omega)
      have h2 := hp.2 k (by omega)
      have h3 := Int.mul_nonneg h1.1 h2.1
      have h4 : el (rwI R i) k * el P k ≤ 1000 * 10000 := Int.mul_le_mul h1.2 h2.2 h2.1 (by decide)
      omega
theorem dsn_all {R : List (List Int)} {N T : Int} {P : List Int} {i : Nat} : dsn R N P i R.length = (lkOf R N T).ds (el P) i := rfl
/-- What a link needs. -/
def ndI (R : List (List Int)) (N T : Int) (P : List Int) (i : Nat) : Int := (lkOf R N T).need (el P) i
theorem ndI_in {R : List (List Int)} {N T : Int} {P : List Int} {i : Nat} (h : LkOk R N T) (hp : PwOk R.length P) (hi : i < R.length) : 1 ≤ ndI R N T P i ∧ ndI R N T P i ≤ 5000100000 := by
  have h1 := dsn_in h hp hi R.length (Nat.le_refl _)
  have h2 := h.1.2
  have h3 := h.2.2.1
  have e : ndI R N T P i = T * dsn R N P i R.length := rfl
  rw [e]
  have h4 : 1 * 1 ≤ T * dsn R N P i R.length := Int.mul_le_mul h3.1 h1.1 (by decide) (by omega)
  have h5 : T * dsn R N P i R.length ≤ 100 * 50001000 := Int.mul_le_mul h3.2 (by omega) (by omega) (by decide)
  omega
theorem gI_in {R : List (List Int)} {N T : Int} {i : Nat} (h : LkOk R N T) (hi : i < R.length) : 10 ≤ 10 * el (rwI R i) i ∧ 10 * el (rwI R i) i ≤ 10000 := by
  have h1 := (h.2.2.2 i hi).2.1 i hi
  have h2 := (h.2.2.2 i hi).2.2
  omega
/-- One power of a step. -/
def stI (R : List (List Int)) (N T : Int) (P : List Int) (i : Nat) : Int := (lkOf R N T).st 10000 (el P) i
theorem stI_is {R : List (List Int)} {N T : Int} {P : List Int} {i : Nat} {q : Int} (hq : (ndI R N T P i + 10 * el (rwI R i) i - 1) / (10 * el (rwI R i) i) = q) : stI R N T P i = if q < 10000 then q else 10000 := by
  subst hq; rfl
def stL (R : List (List Int)) (N T : Int) (P : List Int) : List Int := (List.range R.length).map (stI R N T P)
theorem stL_length {R : List (List Int)} {N T : Int} {P : List Int} : (stL R N T P).length = R.length := by simp [stL]
theorem stL_el {R : List (List Int)} {N T : Int} {P : List Int} {i : Nat} (hi : i < R.length) : el (stL R N T P) i = stI R N T P i := by simp [stL, el, hi]
theorem stI_in {R : List (List Int)} {N T : Int} {P : List Int} {i : Nat} (h : LkOk R N T) (hp : PwOk R.length P) (hi : i < R.length) : 1 ≤ stI R N T P i ∧ stI R N T P i ≤ 10000 :=
  ⟨Lk.st_pos (lkOf_ok h) (by decide) (fun j hj => (hp.2 j hj).1) hi, Lk.st_le _ _ _ _⟩
theorem stL_ok {R : List (List Int)} {N T : Int} {P : List Int} (h : LkOk R N T) (hp : PwOk R.length P) : PwOk R.length (stL R N T P) := ⟨stL_length, fun j hj => by
  rw [stL_el hj]
  have := stI_in h hp hj
  omega⟩
def meetTo (R : List (List Int)) (N T : Int) (P : List Int) (k : Nat) : Prop := ∀ i, i < k → ndI R N T P i ≤ 10 * el (rwI R i) i * el P i
instance (R : List (List Int)) (N T : Int) (P : List Int) (k : Nat) : Decidable (meetTo R N T P k) := inferInstanceAs (Decidable (∀ i, i < k → _ ≤ _))
theorem meetTo_next {R : List (List Int)} {N T : Int} {P : List Int} {k : Nat} (h : meetTo R N T P k) (h1 : ndI R N T P k ≤ 10 * el (rwI R k) k * el P k) : meetTo R N T P (k + 1) := fun j hj => by
  rcases Nat.lt_succ_iff_lt_or_eq.1 hj with h2 | rfl
  · exact h j h2
  · exact h1
/-- LinksMeet's answer. -/
def MtOk (R : List (List Int)) (N T : Int) (P : List Int) : Prop := LkOk R N T ∧ PwOk R.length P ∧ meetTo R N T P R.length
instance (R : List (List Int)) (N T : Int) (P : List Int) : Decidable (MtOk R N T P) := inferInstanceAs (Decidable (_ ∧ _ ∧ _))
theorem MtOk.meet {R : List (List Int)} {N T : Int} {P : List Int} (h : MtOk R N T P) : (lkOf R N T).meet (el P) := h.2.2
/-- PowerStep's answer. -/
def stOr (R : List (List Int)) (N T : Int) (P : List Int) : List Int := if LkOk R N T ∧ PwOk R.length P then stL R N T P else []
theorem stOr_yes {R : List (List Int)} {N T : Int} {P : List Int} (h : LkOk R N T) (hp : PwOk R.length P) : stOr R N T P = stL R N T P := if_pos ⟨h, hp⟩
theorem stOr_no1 {R : List (List Int)} {N T : Int} {P : List Int} (h : ¬ LkOk R N T) : stOr R N T P = [] := if_neg fun h' => h h'.1
theorem stOr_no2 {R : List (List Int)} {N T : Int} {P : List Int} (h : ¬ PwOk R.length P) : stOr R N T P = [] := if_neg fun h' => h h'.2
/-- The powers after k steps from zeros. -/
def itL (R : List (List Int)) (N T : Int) : Nat → List Int
  | 0 => List.replicate R.length 0
  | k + 1 => stL R N T (itL R N T k)
theorem itL_length {R : List (List Int)} {N T : Int} : ∀ k, (itL R N T k).length = R.length
  | 0 => by simp [itL]
  | _ + 1 => stL_length
theorem itL_zero {n j : Nat} : el (List.replicate n 0) j = 0 := by
  unfold el
  rw [List.getD_eq_getElem?_getD, List.getElem?_replicate]
  split <;> rfl
theorem itL_ok {R : List (List Int)} {N T : Int} (h : LkOk R N T) : ∀ k, PwOk R.length (itL R N T k)
  | 0 => ⟨by simp [itL], fun j hj => by
    show 0 ≤ el (List.replicate R.length 0) j ∧ el (List.replicate R.length 0) j ≤ 10000
    rw [itL_zero]; decide⟩
  | k + 1 => stL_ok h (itL_ok h k)
theorem need_congr {x : Lk} {p q : Nat → Int} (h : ∀ j, j < x.n → p j = q j) (i : Nat) : x.need p i = x.need q i := by
  unfold Lk.need Lk.ds
  rw [sqS_congr (g := fun j => if j = i then 0 else x.G i j * q j) fun j hj => by rw [h j hj]]
theorem st_congr {x : Lk} {M : Int} {p q : Nat → Int} (h : ∀ j, j < x.n → p j = q j) (i : Nat) : x.st M p i = x.st M q i := by
  unfold Lk.st
  rw [need_congr h]
theorem itL_it {R : List (List Int)} {N T : Int} : ∀ k i, i < R.length → el (itL R N T k) i = (lkOf R N T).it 10000 k i
  | 0, i, _ => itL_zero
  | k + 1, i, hi => by
    show el (stL R N T (itL R N T k)) i = _
    rw [stL_el hi]
    exact st_congr (fun j hj => itL_it k j hj) i
theorem itL_done {R : List (List Int)} {N T : Int} {k : Nat} : itL R N T k = itL R N T (k + 1) ↔ (lkOf R N T).done 10000 k := by
  constructor
  · intro h i hi
    rw [← itL_it k i hi, ← itL_it (k + 1) i hi, h]
  · intro h
    refine list_ext9 (by rw [itL_length, itL_length]) fun i hi => ?_
    rw [itL_length] at hi
    rw [itL_it k i hi, itL_it (k + 1) i hi]
    exact h i hi
/-- What is left to climb, as a number. -/
def itR (R : List (List Int)) (N T : Int) (k : Nat) : Nat := ((lkOf R N T).rest 10000 k).toNat
theorem itR_lt {R : List (List Int)} {N T : Int} (h : LkOk R N T) {k : Nat} (hne : itL R N T k ≠ itL R N T (k + 1)) : itR R N T (k + 1) < itR R N T k := by
  have h1 : ∃ i, i < (lkOf R N T).n ∧ (lkOf R N T).it 10000 k i ≠ (lkOf R N T).it 10000 (k + 1) i := by
    refine Classical.byContradiction fun hno => hne (itL_done.2 fun i hi => Classical.byContradiction fun hd => hno ⟨i, hi, hd⟩)
  have h2 := Lk.rest_lt (lkOf_ok h) (M := 10000) (by decide) h1
  have h3 := Lk.rest_pos (lkOf_ok h) (M := 10000) (by decide) (k + 1)
  unfold itR
  omega
theorem it_ends {R : List (List Int)} {N T : Int} (h : LkOk R N T) : ∀ m k, itR R N T k ≤ m → ∃ k, itL R N T k = itL R N T (k + 1)
  | 0, k, hm => ⟨k, Classical.byContradiction fun hne => by have := itR_lt h hne; omega⟩
  | m + 1, k, hm => by
    by_cases e : itL R N T k = itL R N T (k + 1)
    · exact ⟨k, e⟩
    · exact it_ends h m (k + 1) (by have := itR_lt h e; omega)
theorem it_end {R : List (List Int)} {N T : Int} (h : LkOk R N T) : ∃ k, itL R N T k = itL R N T (k + 1) := it_ends h _ 0 (Nat.le_refl _)
/-- LeastPowers' list. -/
noncomputable def lpL (R : List (List Int)) (N T : Int) : List Int := if h : LkOk R N T then itL R N T (Classical.choose (it_end h)) else []
theorem lpL_no {R : List (List Int)} {N T : Int} (h : ¬ LkOk R N T) : lpL R N T = [] := dif_neg h
theorem lpL_ex {R : List (List Int)} {N T : Int} (h : LkOk R N T) : ∃ k, lpL R N T = itL R N T k ∧ itL R N T k = itL R N T (k + 1) :=
  ⟨_, dif_pos h, Classical.choose_spec (it_end h)⟩
theorem lpL_is {R : List (List Int)} {N T : Int} (h : LkOk R N T) {k : Nat} (hk : itL R N T k = itL R N T (k + 1)) : lpL R N T = itL R N T k := by
  obtain ⟨m, h1, h2⟩ := lpL_ex h
  rw [h1]
  refine list_ext9 (by rw [itL_length, itL_length]) fun i hi => ?_
  rw [itL_length] at hi
  rw [itL_it m i hi, itL_it k i hi]
  exact Lk.done_same (lkOf_ok h) (itL_done.1 h2) (itL_done.1 hk) hi
theorem lpL_ok {R : List (List Int)} {N T : Int} (h : LkOk R N T) : PwOk R.length (lpL R N T) := by
  obtain ⟨m, h1, _⟩ := lpL_ex h
  rw [h1]
  exact itL_ok h m
theorem lpL_fix {R : List (List Int)} {N T : Int} (h : LkOk R N T) : stL R N T (lpL R N T) = lpL R N T := by
  obtain ⟨m, h1, h2⟩ := lpL_ex h
  rw [h1]
  exact h2.symm
theorem lpL_least {R : List (List Int)} {N T : Int} {P : List Int} (hm : MtOk R N T P) : MtOk R N T (lpL R N T) ∧ ∀ i, i < R.length → el (lpL R N T) i ≤ el P i := by
  obtain ⟨m, h1, h2⟩ := lpL_ex hm.1
  have h3 := Lk.done_meet (lkOf_ok hm.1) (q := el P) (itL_done.1 h2) hm.2.1.2 hm.2.2
  have h4 : ∀ i, i < R.length → el (lpL R N T) i = (lkOf R N T).it 10000 m i := fun i hi => by rw [h1]; exact itL_it m i hi
  refine ⟨⟨hm.1, lpL_ok hm.1, fun i hi => ?_⟩, fun i hi => by rw [h4 i hi]; exact h3.2 i hi⟩
  have e : ndI R N T (lpL R N T) i = (lkOf R N T).need ((lkOf R N T).it 10000 m) i := need_congr (fun j hj => h4 j hj) i
  rw [e, h4 i hi]
  exact h3.1 i hi
theorem lpL_less {R : List (List Int)} {N T : Int} {P : List Int} {i : Nat} (hi : i < R.length) (hlt : el P i < el (lpL R N T) i) : ¬ MtOk R N T P := fun hm => by
  have := (lpL_least hm).2 i hi
  omega
theorem meet_step {R : List (List Int)} {N T : Int} {P : List Int} (hm : MtOk R N T P) {i : Nat} (hi : i < R.length) : stI R N T P i ≤ el P i := Lk.st_meet (lkOf_ok hm.1) hm.2.2 hi
theorem meet_lower {R : List (List Int)} {N T T' : Int} {P : List Int} (hm : MtOk R N T P) (h1 : 1 ≤ T') (h2 : T' ≤ T) : MtOk R N T' P := by
  have h3 := hm.1.2.2.1
  exact ⟨⟨hm.1.1, hm.1.2.1, ⟨h1, by omega⟩, hm.1.2.2.2⟩, hm.2.1, Lk.meet_lower (lkOf_ok hm.1) (fun j hj => (hm.2.1.2 j hj).1) h2 hm.2.2⟩
theorem meet_noise {R : List (List Int)} {N N' T : Int} {P : List Int} (hm : MtOk R N T P) (h1 : 1 ≤ N') (h2 : N' ≤ N) : MtOk R N' T P := by
  have h3 := hm.1.2.1
  exact ⟨⟨hm.1.1, ⟨h1, by omega⟩, hm.1.2.2⟩, hm.2.1, Lk.meet_noise (lkOf_ok hm.1) h2 hm.2.2⟩
theorem step_mono {R : List (List Int)} {N T : Int} {P Q : List Int} (h : LkOk R N T) (hpq : ∀ j, j < R.length → el P j ≤ el Q j) {i : Nat} (hi : i < R.length) : stI R N T P i ≤ stI R N T Q i :=
  Lk.st_mono (lkOf_ok h) hpq hi
theorem fix_meet {R : List (List Int)} {N T : Int} {P : List Int} (h : LkOk R N T) (hp : PwOk R.length P) (hf : stL R N T P = P) (hlt : ∀ i, i < R.length → stI R N T P i < 10000) : MtOk R N T P :=
  ⟨h, hp, Lk.meet_fix (lkOf_ok h) (M := 10000) (fun i hi => by show stI R N T P i = el P i; rw [← stL_el hi, hf]) hlt⟩
end Go.Proofs.Ytgdfjbdpidileaa
