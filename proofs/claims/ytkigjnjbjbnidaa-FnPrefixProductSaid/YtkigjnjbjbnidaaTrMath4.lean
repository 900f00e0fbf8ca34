/-
  A fast transform of sixteen numbers, as a program makes it: the order of reversed digits, then butterflies in place; it is the transform. No condition but the numbers' range.
-/
import Derived.Test.YtkigjnjbjbnidaaTr1
namespace Go.Proofs.Ytkigjnjbjbnidaa
open Go.RowKit

theorem el_set (xs : List Int) (i : Nat) (v : Int) (k : Nat) : el (xs.set i v) k = if k = i ∧ i < xs.length then v else el xs k := by
  unfold el
  rw [List.getD_eq_getElem?_getD, List.getD_eq_getElem?_getD, List.getElem?_set]
  by_cases h : k = i
  · subst h
    by_cases h2 : k < xs.length
    · simp [h2]
    · simp [h2]
  · simp [h, show ¬ i = k from fun e => h e.symm]
theorem el_zeros16 (k : Nat) : el (List.replicate 16 0) k = 0 := by
  by_cases h : k < 16
  · unfold el
    rw [List.getD_eq_getElem?_getD, List.getElem?_replicate, if_pos h]; rfl
  · exact el_out (by simp; omega)
/-- All numbers lie in the range. -/
def RIn (ys : List Int) : Prop := ∀ k, 0 ≤ el ys k ∧ el ys k < 257
theorem RIn.set {ys : List Int} (h : RIn ys) {i : Nat} {v : Int} (hv : 0 ≤ v ∧ v < 257) : RIn (ys.set i v) := fun k => by
  rw [el_set]
  split
  · exact hv
  · exact h k
theorem rin_ok {xs : List Int} (h : ptOk xs = true) : RIn xs := fun k => ptOk_in h k
/-- Reversed digits. -/
def rvT : List Nat := [0, 8, 4, 12, 2, 10, 6, 14, 1, 9, 5, 13, 3, 11, 7, 15]
def rv (k : Nat) : Nat := (rvT[k]?).getD 0
theorem rv_lt : ∀ k, k < 16 → rv k < 16 := by decide
theorem rv_rv : ∀ k, k < 16 → rv (rv k) = k := by decide
theorem rv_inj {j k : Nat} (hj : j < 16) (hk : k < 16) (h : rv j = rv k) : j = k := by rw [← rv_rv j hj, h, rv_rv k hk]
/-- The list in the order of reversed digits, its first k numbers done. -/
def rvX (xs : List Int) : Nat → List Int
  | 0 => List.replicate 16 0
  | k + 1 => (rvX xs k).set (rv k) (el xs k)
theorem rvX_len (xs : List Int) : ∀ k, (rvX xs k).length = 16
  | 0 => by simp [rvX]
  | k + 1 => by rw [rvX, List.length_set, rvX_len xs k]
theorem rvX_el (xs : List Int) : ∀ n, n ≤ 16 → ∀ k, k < 16 → el (rvX xs n) k = if rv k < n then el xs (rv k) else 0
  | 0, _, k, hk => by
    rw [if_neg (Nat.not_lt_zero _)]
    exact el_zeros16 k
  | n + 1, hn, k, hk => by
    rw [rvX, el_set, rvX_len, rvX_el xs n (by omega) k hk]
    by_cases e : k = rv n
    · rw [if_pos ⟨e, rv_lt n (by omega)⟩, e, rv_rv n (by omega), if_pos (by omega)]
    · rw [if_neg (fun h => e h.1)]
      have h2 : rv k ≠ n := fun h => e (by rw [← h, rv_rv k hk])
      by_cases h3 : rv k < n
      · rw [if_pos h3, if_pos (by omega)]
      · rw [if_neg h3, if_neg (by omega)]
theorem rvX_in {xs : List Int} (h : RIn xs) : ∀ n, RIn (rvX xs n)
  | 0 => fun k => by
    rw [rvX, el_zeros16]; decide
  | n + 1 => (rvX_in h n).set (h n)
/-- One butterfly. -/
def bfA (ys : List Int) (i j : Nat) (f : Int) : Int := (el ys i + el ys j * f % 257) % 257
def bfB (ys : List Int) (i j : Nat) (f : Int) : Int := (el ys i - el ys j * f % 257 + 257) % 257
def bfL (ys : List Int) (i j : Nat) (f : Int) : List Int := (ys.set i (bfA ys i j f)).set j (bfB ys i j f)
/-- n butterflies of one block; the blocks of one size; all sizes. -/
def bfS (ys : List Int) (s h : Nat) (t : Int) : Nat → List Int
  | 0 => ys
  | n + 1 => bfL (bfS ys s h t n) (s + n) (s + n + h) (pwF t n)
def blS (ys : List Int) (h : Nat) (t : Int) : Nat → List Int
  | 0 => ys
  | m + 1 => bfS (blS ys h t m) (m * (2 * h)) h t h
def szS (ys : List Int) (r : Int) : Nat → List Int
  | 0 => ys
  | n + 1 => blS (szS ys r n) (2 ^ n) (pwF r (8 / 2 ^ n)) (8 / 2 ^ n)
def fftL (r : Int) (xs : List Int) : List Int := szS (rvX xs 16) r 4
theorem bf_in {ys : List Int} {i j : Nat} {f : Int} : (0 ≤ bfA ys i j f ∧ bfA ys i j f < 257) ∧ 0 ≤ bfB ys i j f ∧ bfB ys i j f < 257 :=
  ⟨⟨Int.emod_nonneg _ (by decide), Int.emod_lt_of_pos _ (by decide)⟩, Int.emod_nonneg _ (by decide), Int.emod_lt_of_pos _ (by decide)⟩
theorem bfL_len (ys : List Int) (i j : Nat) (f : Int) : (bfL ys i j f).length = ys.length := by simp [bfL]
theorem bfL_in {ys : List Int} (h : RIn ys) (i j : Nat) (f : Int) : RIn (bfL ys i j f) := (h.set bf_in.1).set bf_in.2
theorem bfS_len (ys : List Int) (s h : Nat) (t : Int) : ∀ n, (bfS ys s h t n).length = ys.length
  | 0 => rfl
  | n + 1 => by rw [bfS, bfL_len, bfS_len ys s h t n]
theorem bfS_in {ys : List Int} (hy : RIn ys) (s h : Nat) (t : Int) : ∀ n, RIn (bfS ys s h t n)
  | 0 => hy
  | n + 1 => bfL_in (bfS_in hy s h t n) _ _ _
theorem blS_len (ys : List Int) (h : Nat) (t : Int) : ∀ m, (blS ys h t m).length = ys.length
  | 0 => rfl
  | m + 1 => by rw [blS, bfS_len, blS_len ys h t m]
theorem blS_in {ys : List Int} (hy : RIn ys) (h : Nat) (t : Int) : ∀ m, RIn (blS ys h t m)
  | 0 => hy
  | m + 1 => bfS_in (blS_in hy h t m) _ _ _ _
theorem szS_len (ys : List Int) (r : Int) : ∀ n, (szS ys r n).length = ys.length
  | 0 => rfl
  | n + 1 => by rw [szS, blS_len, szS_len ys r n]
theorem szS_in {ys : List Int} (hy : RIn ys) (r : Int) : ∀ n, RIn (szS ys r n)
  | 0 => hy
  | n + 1 => blS_in (szS_in hy r n) _ _ _
theorem fftL_len (r : Int) (xs : List Int) : (fftL r xs).length = 16 := by rw [fftL, szS_len, rvX_len]
theorem fftL_in {xs : List Int} (h : RIn xs) (r : Int) : RIn (fftL r xs) := szS_in (rvX_in h 16) r 4

/-- The same with rows of coefficients. -/
def rowM (M : List (List Int)) (k : Nat) : List Int := (M[k]?).getD []
def bfM (M : List (List Int)) (i j : Nat) (f : Int) : List (List Int) :=
  (M.set i (l16 fun t => (el (rowM M i) t + el (rowM M j) t * f) % 257)).set j (l16 fun t => (el (rowM M i) t - el (rowM M j) t * f) % 257)
def bfSM (M : List (List Int)) (s h : Nat) (t : Int) : Nat → List (List Int)
  | 0 => M
  | n + 1 => bfM (bfSM M s h t n) (s + n) (s + n + h) (pwF t n)
def blSM (M : List (List Int)) (h : Nat) (t : Int) : Nat → List (List Int)
  | 0 => M
  | m + 1 => bfSM (blSM M h t m) (m * (2 * h)) h t h
def szSM (M : List (List Int)) (r : Int) : Nat → List (List Int)
  | 0 => M
  | n + 1 => blSM (szSM M r n) (2 ^ n) (pwF r (8 / 2 ^ n)) (8 / 2 ^ n)
def unitM : List (List Int) := (List.range 16).map fun k => l16 fun j => if j = rv k then 1 else 0
def fftM (r : Int) : List (List Int) := szSM unitM r 4
def dftM (c : Nat) : List (List Int) := (List.range 16).map fun k => l16 fun j => tw (c * (j * k))
theorem fftM_one : fftM 2 = dftM 1 := by decide +kernel
theorem fftM_back : fftM 129 = dftM 15 := by decide +kernel

/-- The numbers are the rows' sums. -/
def Rep (f : Nat → Int) (M : List (List Int)) (ys : List Int) : Prop := (ys.length = 16 ∧ M.length = 16) ∧ ∀ k, k < 16 → cg (el ys k) (lnF f (el (rowM M k)))
theorem rowM_set (M : List (List Int)) (i : Nat) (r : List Int) (k : Nat) (h : i < M.length) : rowM (M.set i r) k = if k = i then r else rowM M k := by
  unfold rowM
  rw [List.getElem?_set]
  by_cases e : k = i
  · subst e; simp [h]
  · simp [e, show ¬ i = k from fun e' => e e'.symm]
theorem Rep.bf {f : Nat → Int} {M : List (List Int)} {ys : List Int} (h : Rep f M ys) {i j : Nat} (hi : i < 16) (hj : j < 16) (c : Int) : Rep f (bfM M i j c) (bfL ys i j c) := by
  obtain ⟨⟨h1, h2⟩, h3⟩ := h
  refine ⟨⟨by simp [bfL, h1], by simp [bfM, h2]⟩, fun k hk => ?_⟩
  unfold bfL bfM
  rw [el_set, el_set, rowM_set _ _ _ _ (by rw [List.length_set, h2]; exact hj), rowM_set _ _ _ _ (by rw [h2]; exact hi), List.length_set, h1]
  have a1 := h3 i hi
  have a2 := h3 j hj
  by_cases e : k = j
  · rw [if_pos ⟨e, hj⟩, if_pos e]
    have e1 : cg (lnF f (el (l16 fun t => (el (rowM M i) t - el (rowM M j) t * c) % 257))) (lnF f fun t => el (rowM M i) t - el (rowM M j) t * c) := lnF_cg f fun t ht => by rw [l16_el ht]; exact cg_mod _
    refine cg.trans ?_ e1.symm
    rw [lnF_sub, lnF_mul]
    unfold bfB
    refine (cg_mod _).trans ?_
    have e2 : cg (el ys i - el ys j * c % 257 + 257) (el ys i - el ys j * c % 257) := by unfold cg; omega
    exact e2.trans (a1.sub ((cg_mod _).trans (a2.mul (cg.refl c))))
  · rw [if_neg (fun x => e x.1), if_neg e]
    by_cases e' : k = i
    · rw [if_pos ⟨e', hi⟩, if_pos e']
      have e1 : cg (lnF f (el (l16 fun t => (el (rowM M i) t + el (rowM M j) t * c) % 257))) (lnF f fun t => el (rowM M i) t + el (rowM M j) t * c) := lnF_cg f fun t ht => by rw [l16_el ht]; exact cg_mod _
      refine cg.trans ?_ e1.symm
      rw [lnF_add, lnF_mul]
      unfold bfA
      exact (cg_mod _).trans (a1.add ((cg_mod _).trans (a2.mul (cg.refl c))))
    · rw [if_neg (fun x => e' x.1), if_neg e']
      exact h3 k hk
theorem Rep.bfS {f : Nat → Int} {M : List (List Int)} {ys : List Int} (h : Rep f M ys) {s d : Nat} (t : Int) : ∀ n, s + n + d ≤ 16 → Rep f (bfSM M s d t n) (bfS ys s d t n)
  | 0, _ => h
  | n + 1, hn => (Rep.bfS h t n (by omega)).bf (by omega) (by omega) _
theorem Rep.blS {f : Nat → Int} {M : List (List Int)} {ys : List Int} (h : Rep f M ys) {d : Nat} (t : Int) : ∀ m, m * (2 * d) ≤ 16 → Rep f (blSM M d t m) (blS ys d t m)
  | 0, _ => h
  | m + 1, hm => (Rep.blS h t m (by rw [Nat.succ_mul] at hm; omega)).bfS t d (by rw [Nat.succ_mul] at hm; omega)
theorem Rep.szS {f : Nat → Int} {M : List (List Int)} {ys : List Int} (h : Rep f M ys) (r : Int) : Rep f (szSM M r 4) (szS ys r 4) :=
  (((h.blS (d := 1) (pwF r 8) 8 (by decide)).blS (d := 2) (pwF r 4) 4 (by decide)).blS (d := 4) (pwF r 2) 2 (by decide)).blS (d := 8) (pwF r 1) 1 (by decide)
theorem rep_start (xs : List Int) : Rep (el xs) unitM (rvX xs 16) := by
  refine ⟨⟨rvX_len xs 16, by simp [unitM]⟩, fun k hk => ?_⟩
  have e : rowM unitM k = l16 fun j => if j = rv k then 1 else 0 := by simp [rowM, unitM, hk]
  rw [e, rvX_el xs 16 (by omega) k hk, if_pos (rv_lt k hk)]
  refine cg_of_eq ?_
  have e2 : lnF (el xs) (el (l16 fun j => if j = rv k then 1 else 0)) = lnF (el xs) fun j => if j = rv k then 1 else 0 := by
    unfold lnF
    exact sqS_congr fun j hj => by rw [l16_el hj]
  rw [e2, lnF_unit _ (rv_lt k hk)]
theorem fftL_tr {r : Int} {c : Nat} (hM : fftM r = dftM c) {xs : List Int} (h : RIn xs) {k : Nat} (hk : k < 16) : el (fftL r xs) k = trS c (el xs) k % 257 := by
  have h1 := (rep_start xs).szS r
  have h2 := h1.2 k hk
  rw [show szSM unitM r 4 = dftM c from hM] at h2
  have e : rowM (dftM c) k = l16 fun j => tw (c * (j * k)) := by simp [rowM, dftM, hk]
  rw [e] at h2
  have e2 : lnF (el xs) (el (l16 fun j => tw (c * (j * k)))) = trS c (el xs) k := by
    rw [← lnF_tr]
    unfold lnF
    exact sqS_congr fun j hj => by rw [l16_el hj]
  rw [e2] at h2
  refine cg_eq (h2.trans (cg_mod _).symm) (fftL_in h r k) ⟨Int.emod_nonneg _ (by decide), Int.emod_lt_of_pos _ (by decide)⟩
theorem fftL_forward {xs : List Int} (h : ptOk xs = true) : fftL 2 xs = ftOr xs := by
  rw [ftOr_yes h]
  exact l16_eq (fftL_len 2 xs) fun k hk => fftL_tr fftM_one (rin_ok h) hk
theorem fftL_backward {xs : List Int} (h : RIn xs) {k : Nat} (hk : k < 16) : el (fftL 129 xs) k * 241 % 257 = btF (el xs) k := by
  rw [fftL_tr fftM_back h hk]
  unfold btF
  rw [Int.mul_comm 241]
  exact (cg_mod _).mul (cg.refl 241)
end Go.Proofs.Ytkigjnjbjbnidaa
