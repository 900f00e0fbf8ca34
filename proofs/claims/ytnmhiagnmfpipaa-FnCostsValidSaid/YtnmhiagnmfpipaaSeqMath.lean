/-
  Sequences as mathematics: sums, convolutions (commutative, associative, sums multiply), correlations, undoing. No condition; plain lemmas.
-/
import Derived.Test.YtnmhiagnmfpipaaBase
namespace Go.Proofs.Ytnmhiagnmfpipaa
open Go.RowKit

/-- The sum of f 0 .. f (n - 1). -/
def sqS (f : Nat → Int) : Nat → Int
  | 0 => 0
  | n + 1 => sqS f n + f n
theorem sqS_congr {f g : Nat → Int} : ∀ {n : Nat}, (∀ i, i < n → f i = g i) → sqS f n = sqS g n
  | 0, _ => rfl
  | n + 1, h => by
    show sqS f n + f n = sqS g n + g n
    rw [sqS_congr (n := n) fun i hi => h i (by omega), h n (by omega)]
theorem sqS_zero {f : Nat → Int} : ∀ {n : Nat}, (∀ i, i < n → f i = 0) → sqS f n = 0
  | 0, _ => rfl
  | n + 1, h => by
    show sqS f n + f n = 0
    rw [sqS_zero (n := n) fun i hi => h i (by omega), h n (by omega)]; rfl
theorem sqS_add (f g : Nat → Int) : ∀ n : Nat, sqS (fun i => f i + g i) n = sqS f n + sqS g n
  | 0 => rfl
  | n + 1 => by
    show sqS _ n + (f n + g n) = (sqS f n + f n) + (sqS g n + g n)
    rw [sqS_add f g n]; omega
theorem sqS_mul (c : Int) (f : Nat → Int) : ∀ n : Nat, sqS (fun i => c * f i) n = c * sqS f n
  | 0 => (Int.mul_zero c).symm
  | n + 1 => by
    show sqS _ n + c * f n = c * (sqS f n + f n)
    rw [sqS_mul c f n, Int.mul_add]
theorem sqS_mulR (c : Int) (f : Nat → Int) (n : Nat) : sqS (fun i => f i * c) n = sqS f n * c := by
  rw [sqS_congr (g := fun i => c * f i) fun i _ => Int.mul_comm _ _, sqS_mul, Int.mul_comm]
theorem sqS_split (f : Nat → Int) (n : Nat) : ∀ m : Nat, sqS f (n + m) = sqS f n + sqS (fun i => f (n + i)) m
  | 0 => (Int.add_zero _).symm
  | m + 1 => by
    show sqS f (n + m) + f (n + m) = sqS f n + (sqS (fun i => f (n + i)) m + f (n + m))
    rw [sqS_split f n m]; omega
theorem sqS_head (f : Nat → Int) (n : Nat) : sqS f (n + 1) = f 0 + sqS (fun i => f (i + 1)) n := by
  rw [Nat.add_comm, sqS_split]
  show (0 + f 0) + sqS (fun i => f (1 + i)) n = _
  rw [Int.zero_add, sqS_congr (g := fun i => f (i + 1)) fun i _ => by rw [Nat.add_comm]]
theorem sqS_rev : ∀ (n : Nat) (f : Nat → Int), sqS (fun i => f (n - 1 - i)) n = sqS f n
  | 0, _ => rfl
  | n + 1, f => by
    rw [sqS_head]
    show f (n + 1 - 1 - 0) + sqS (fun i => f (n + 1 - 1 - (i + 1))) n = sqS f n + f n
    rw [sqS_congr (g := fun i => f (n - 1 - i)) fun i _ => by congr 1; omega, sqS_rev n f, show n + 1 - 1 - 0 = n by omega]; omega
theorem sqS_tail {f : Nat → Int} {n m : Nat} (h : n ≤ m) (h0 : ∀ i, n ≤ i → f i = 0) : sqS f m = sqS f n := by
  obtain ⟨d, rfl⟩ := Nat.exists_eq_add_of_le h
  rw [sqS_split, sqS_zero (n := d) fun i _ => h0 _ (by omega)]; omega
/-- A triangle, summed by its rows and by its columns. -/
theorem sqS_tri (g : Nat → Nat → Int) : ∀ n : Nat, sqS (fun i => sqS (fun j => g i j) (i + 1)) n = sqS (fun j => sqS (fun l => g (j + l) j) (n - j)) n
  | 0 => rfl
  | n + 1 => by
    show sqS _ n + sqS (fun j => g n j) (n + 1) = sqS (fun j => sqS (fun l => g (j + l) j) (n + 1 - j)) n + sqS (fun l => g (n + l) n) (n + 1 - n)
    rw [sqS_tri g n, show n + 1 - n = 0 + 1 by omega]
    show sqS _ n + (sqS (fun j => g n j) n + g n n) = _ + (0 + g n n)
    have e : sqS (fun j => sqS (fun l => g (j + l) j) (n + 1 - j)) n = sqS (fun j => sqS (fun l => g (j + l) j) (n - j) + g n j) n := sqS_congr fun j hj => by
      rw [show n + 1 - j = (n - j) + 1 by omega]
      show sqS _ (n - j) + g (j + (n - j)) j = _
      rw [show j + (n - j) = n by omega]
    rw [e, sqS_add, Int.zero_add]
    exact (Int.add_assoc _ _ _).symm
theorem sqS_bound {f : Nat → Int} {M : Int} : ∀ {n : Nat}, (∀ i, i < n → -M ≤ f i ∧ f i ≤ M) → -(n * M) ≤ sqS f n ∧ sqS f n ≤ n * M
  | 0, _ => by simp [sqS]
  | n + 1, h => by
    have h1 := sqS_bound (n := n) fun i hi => h i (by omega)
    have h2 := h n (by omega)
    show -(((n + 1 : Nat) : Int) * M) ≤ sqS f n + f n ∧ sqS f n + f n ≤ ((n + 1 : Nat) : Int) * M
    have e : ((n + 1 : Nat) : Int) * M = n * M + M := by rw [Int.natCast_add, Int.add_mul]; simp
    rw [e]; omega
theorem el_out {xs : List Int} {i : Nat} (h : xs.length ≤ i) : el xs i = 0 := by simp [el, h]
theorem list_ext9 {xs ys : List Int} (hl : xs.length = ys.length) (h : ∀ k, k < xs.length → el xs k = el ys k) : xs = ys := by
  apply List.ext_getElem hl
  intro k h1 h2
  have := h k h1
  rwa [el_lt h1, el_lt h2] at this
def sumL (xs : List Int) : Int := sqS (el xs) xs.length

/-- The convolution. -/
def cvF (a b : Nat → Int) (k : Nat) : Int := sqS (fun i => a i * b (k - i)) (k + 1)
theorem cvF_comm (a b : Nat → Int) (k : Nat) : cvF a b k = cvF b a k := by
  unfold cvF
  rw [← sqS_rev (k + 1) fun i => a i * b (k - i)]
  refine sqS_congr fun i hi => ?_
  rw [show k - (k + 1 - 1 - i) = i by omega, show k + 1 - 1 - i = k - i by omega, Int.mul_comm]
theorem cvF_assoc (a b c : Nat → Int) (k : Nat) : cvF (cvF a b) c k = cvF a (cvF b c) k := by
  have e1 : cvF (cvF a b) c k = sqS (fun i => sqS (fun j => a j * b (i - j) * c (k - i)) (i + 1)) (k + 1) := sqS_congr fun i _ => by
    show sqS (fun j => a j * b (i - j)) (i + 1) * c (k - i) = _
    rw [← sqS_mulR]
  rw [e1, sqS_tri]
  refine sqS_congr fun j hj => ?_
  show _ = a j * sqS (fun l => b l * c (k - j - l)) (k - j + 1)
  rw [← sqS_mul, show k + 1 - j = k - j + 1 by omega]
  refine sqS_congr fun l hl => ?_
  rw [show j + l - j = l by omega, show k - (j + l) = k - j - l by omega, Int.mul_assoc]
theorem cvF_out {a b : Nat → Int} {n m k : Nat} (ha : ∀ i, n ≤ i → a i = 0) (hb : ∀ i, m ≤ i → b i = 0) (h : n + m ≤ k + 1) : cvF a b k = 0 :=
  sqS_zero fun i hi => by
    by_cases h1 : n ≤ i
    · rw [ha i h1, Int.zero_mul]
    · rw [hb (k - i) (by omega), Int.mul_zero]
theorem cvF_sum {a b : Nat → Int} {n m : Nat} (ha : ∀ i, n ≤ i → a i = 0) (hb : ∀ i, m ≤ i → b i = 0) (hn : 0 < n) (hm : 0 < m) : sqS (cvF a b) (n + m - 1) = sqS a n * sqS b m := by
  have e1 : sqS (cvF a b) (n + m - 1) = sqS (fun j => a j * sqS b m) (n + m - 1) := by
    show sqS (fun i => sqS (fun j => a j * b (i - j)) (i + 1)) (n + m - 1) = _
    rw [sqS_tri]
    refine sqS_congr fun j hj => ?_
    rw [sqS_congr (g := fun l => a j * b l) fun l _ => by rw [show j + l - j = l by omega], sqS_mul]
    by_cases h1 : n ≤ j
    · rw [ha j h1, Int.zero_mul, Int.zero_mul]
    · rw [sqS_tail (n := m) (by omega) hb]
  rw [e1, sqS_mulR, sqS_tail (n := n) (by omega) ha]
def cvL (xs ys : List Int) : List Int := (List.range (xs.length + ys.length - 1)).map (cvF (el xs) (el ys))
theorem cvL_length (xs ys : List Int) : (cvL xs ys).length = xs.length + ys.length - 1 := by simp [cvL]
theorem cvL_el {xs ys : List Int} (hx : 0 < xs.length) (k : Nat) : el (cvL xs ys) k = cvF (el xs) (el ys) k := by
  by_cases h : k < xs.length + ys.length - 1
  · simp [el, cvL, h]
  · rw [el_out (by rw [cvL_length]; omega), cvF_out (n := xs.length) (m := ys.length) (fun i hi => el_out hi) (fun i hi => el_out hi) (by omega)]
theorem cvL_comm {xs ys : List Int} (hx : 0 < xs.length) (hy : 0 < ys.length) : cvL xs ys = cvL ys xs :=
  list_ext9 (by rw [cvL_length, cvL_length]; omega) fun k _ => by rw [cvL_el hx, cvL_el hy, cvF_comm]
theorem cvL_assoc {xs ys zs : List Int} (hx : 0 < xs.length) (hy : 0 < ys.length) (hz : 0 < zs.length) : cvL (cvL xs ys) zs = cvL xs (cvL ys zs) :=
  list_ext9 (by simp only [cvL_length]; omega) fun k _ => by
    rw [cvL_el (by rw [cvL_length]; omega), cvL_el hx, show el (cvL xs ys) = cvF (el xs) (el ys) from funext (cvL_el hx), show el (cvL ys zs) = cvF (el ys) (el zs) from funext (cvL_el hy), cvF_assoc]
theorem cvL_sum {xs ys : List Int} (hx : 0 < xs.length) (hy : 0 < ys.length) : sumL (cvL xs ys) = sumL xs * sumL ys := by
  unfold sumL
  rw [cvL_length, show el (cvL xs ys) = cvF (el xs) (el ys) from funext (cvL_el hx), cvF_sum (fun i hi => el_out hi) (fun i hi => el_out hi) hx hy]
theorem cvL_one {xs : List Int} (hx : 0 < xs.length) : cvL xs [1] = xs :=
  list_ext9 (by rw [cvL_length]; simp) fun k _ => by
    rw [cvL_el hx, cvF_comm]
    unfold cvF
    rw [sqS_head, sqS_zero (n := k) fun i _ => by rw [el_out (show [(1 : Int)].length ≤ i + 1 by simp), Int.zero_mul]]
    show el [1] 0 * el xs (k - 0) + 0 = _
    rw [show el [(1 : Int)] 0 = 1 from rfl, Int.one_mul, Int.add_zero, Nat.sub_zero]
theorem cvL_delay {xs : List Int} (hx : 0 < xs.length) : cvL xs [0, 1] = 0 :: xs :=
  list_ext9 (by rw [cvL_length]; simp) fun k _ => by
    rw [cvL_el hx, cvF_comm]
    unfold cvF
    rw [sqS_head]
    show el [0, 1] 0 * el xs (k - 0) + _ = _
    rw [show el [(0 : Int), 1] 0 = 0 from rfl, Int.zero_mul, Int.zero_add]
    cases k with
    | zero => rfl
    | succ k =>
      rw [sqS_head, sqS_zero (n := k) fun i _ => by rw [el_out (show [(0 : Int), 1].length ≤ i + 1 + 1 by simp), Int.zero_mul]]
      show el [0, 1] 1 * el xs (k + 1 - 1) + 0 = el (0 :: xs) (k + 1)
      rw [show el [(0 : Int), 1] 1 = 1 from rfl, Int.one_mul, Int.add_zero, Nat.add_sub_cancel]
      simp [el]

/-- What is valid. -/
def seqIn (x : Int) : Bool := decide (-1000 ≤ x) && decide (x ≤ 1000)
def seqOk (xs : List Int) : Bool := decide (xs.length ≤ 64) && xs.all seqIn
theorem seqIn_yes {n : Int} (h : seqIn n = true) : -1000 ≤ n ∧ n ≤ 1000 := by simpa [seqIn] using h
theorem seqOk_len {xs : List Int} (h : seqOk xs = true) : xs.length ≤ 64 := by
  simp only [seqOk, Bool.and_eq_true, decide_eq_true_eq] at h; exact h.1
theorem seqOk_in {xs : List Int} (h : seqOk xs = true) (i : Nat) : -1000 ≤ el xs i ∧ el xs i ≤ 1000 := by
  by_cases hi : i < xs.length
  · simp only [seqOk, Bool.and_eq_true, List.all_eq_true] at h
    exact seqIn_yes (h.2 _ (el_mem hi))
  · rw [el_out (by omega)]; omega
theorem seqOk_long {xs : List Int} (h : 64 < xs.length) : seqOk xs = false := by simp [seqOk, show ¬ xs.length ≤ 64 by omega]
theorem seqOk_bad {xs : List Int} {i : Nat} (hi : i < xs.length) (h : seqIn (el xs i) = false) : seqOk xs = false := by
  cases e : seqOk xs
  · rfl
  · simp only [seqOk, Bool.and_eq_true, List.all_eq_true] at e
    rw [e.2 _ (el_mem hi)] at h; cases h
def seqTo (xs : List Int) (n : Nat) : Prop := ∀ i, i < n → seqIn (el xs i) = true
theorem seqTo_next {xs : List Int} {n : Nat} (h : seqTo xs n) (hn : seqIn (el xs n) = true) : seqTo xs (n + 1) := fun i hi => by
  by_cases e : i = n
  · subst e; exact hn
  · exact h i (by omega)
theorem seqOk_good {xs : List Int} (h : seqTo xs xs.length) (hl : xs.length ≤ 64) : seqOk xs = true := by
  simp only [seqOk, Bool.and_eq_true, decide_eq_true_eq, List.all_eq_true]
  refine ⟨hl, fun x hx => ?_⟩
  obtain ⟨i, hi, rfl⟩ := List.getElem_of_mem hx
  have := h i hi
  rwa [el_lt hi] at this
theorem seqOk_take {xs : List Int} (h : seqOk xs = true) (m : Nat) : seqOk (xs.take m) = true := by
  simp only [seqOk, Bool.and_eq_true, decide_eq_true_eq, List.all_eq_true] at h ⊢
  exact ⟨by rw [List.length_take]; omega, fun x hx => h.2 x (List.mem_of_mem_take hx)⟩
theorem prod_in {a b : Int} (ha : -1000 ≤ a ∧ a ≤ 1000) (hb : -1000 ≤ b ∧ b ≤ 1000) : -1000000 ≤ a * b ∧ a * b ≤ 1000000 := by
  have h : (a * b).natAbs ≤ 1000 * 1000 := by rw [Int.natAbs_mul]; exact Nat.mul_le_mul (by omega) (by omega)
  omega
theorem cvF_in {xs ys : List Int} (hx : seqOk xs = true) (hy : seqOk ys = true) (k : Nat) (hk : k ≤ 200) : -1000000000 ≤ cvF (el xs) (el ys) k ∧ cvF (el xs) (el ys) k ≤ 1000000000 := by
  have h := sqS_bound (f := fun i => el xs i * el ys (k - i)) (M := 1000000) (n := k + 1) fun i _ => prod_in (seqOk_in hx i) (seqOk_in hy (k - i))
  unfold cvF
  omega
def fltOr (xs ys : List Int) : List Int := if seqOk xs = true ∧ seqOk ys = true ∧ 0 < xs.length ∧ 0 < ys.length then cvL xs ys else []
/-- The correlation. -/
def crS (xs ps : List Int) (at_ m : Nat) : Int := sqS (fun k => el xs (at_ + k) * el ps k) m
def crOr (xs ps : List Int) (q : Int) : Int := if seqOk xs = true ∧ seqOk ps = true ∧ 0 ≤ q ∧ q ≤ (xs.length : Int) - ps.length then crS xs ps q.toNat ps.length else 0
theorem crS_in {xs ps : List Int} (hx : seqOk xs = true) (hp : seqOk ps = true) (q m : Nat) (hm : m ≤ 64) : -1000000000 ≤ crS xs ps q m ∧ crS xs ps q m ≤ 1000000000 := by
  have h := sqS_bound (f := fun k => el xs (q + k) * el ps k) (M := 1000000) (n := m) fun i _ => prod_in (seqOk_in hx (q + i)) (seqOk_in hp i)
  unfold crS
  omega
theorem el_reverse {ps : List Int} {j : Nat} (h : j < ps.length) : el ps.reverse j = el ps (ps.length - 1 - j) := by
  rw [el_lt (by simpa using h), el_lt (by omega), List.getElem_reverse]
theorem crS_cv {xs ps : List Int} {q : Nat} (hp : 0 < ps.length) : crS xs ps q ps.length = cvF (el xs) (el ps.reverse) (q + ps.length - 1) := by
  unfold cvF crS
  rw [show q + ps.length - 1 + 1 = q + ps.length by omega, sqS_split, sqS_zero (n := q) fun i hi => by rw [el_out (xs := ps.reverse) (by rw [List.length_reverse]; omega), Int.mul_zero], Int.zero_add]
  refine sqS_congr fun i hi => ?_
  rw [el_reverse (by omega)]
  congr 2
  omega
/-- Undoing: the first k numbers. -/
def und (xs fs : List Int) : Nat → List Int
  | 0 => []
  | k + 1 => und xs fs k ++ [el xs k - sqS (fun i => el fs (i + 1) * el (und xs fs k) (k - (i + 1))) k]
theorem und_length (xs fs : List Int) : ∀ k, (und xs fs k).length = k
  | 0 => rfl
  | k + 1 => by simp [und, und_length xs fs k]
theorem el_app {xs ys : List Int} {i : Nat} (h : i < xs.length) : el (xs ++ ys) i = el xs i := by simp [el, List.getElem?_append_left h]
theorem und_el (xs fs : List Int) : ∀ {k n : Nat}, k < n → el (und xs fs n) k = el xs k - sqS (fun i => el fs (i + 1) * el (und xs fs n) (k - (i + 1))) k
  | k, n + 1, h => by
    have hlen := und_length xs fs n
    by_cases e : k = n
    · subst e
      have e1 : el (und xs fs (k + 1)) k = el xs k - sqS (fun i => el fs (i + 1) * el (und xs fs k) (k - (i + 1))) k := by
        show el (und xs fs k ++ [_]) k = _
        simp [el, hlen]
      rw [e1]
      congr 1
      refine sqS_congr fun i hi => ?_
      rw [show el (und xs fs (k + 1)) (k - (i + 1)) = el (und xs fs k) (k - (i + 1)) from el_app (by rw [hlen]; omega)]
    · have hk : k < n := by omega
      rw [show el (und xs fs (n + 1)) k = el (und xs fs n) k from el_app (by rw [hlen]; exact hk), und_el xs fs hk]
      congr 1
      refine sqS_congr fun i hi => ?_
      rw [show el (und xs fs (n + 1)) (k - (i + 1)) = el (und xs fs n) (k - (i + 1)) from el_app (by rw [hlen]; omega)]
theorem und_cv {xs fs : List Int} (h1 : el fs 0 = 1) {k n : Nat} (h : k < n) : cvF (el (und xs fs n)) (el fs) k = el xs k := by
  rw [cvF_comm]
  unfold cvF
  rw [sqS_head]
  show el fs 0 * el (und xs fs n) (k - 0) + _ = _
  rw [h1, Int.one_mul, Nat.sub_zero, und_el xs fs h]; omega
/-- What is undone is the only list whose convolution begins so. -/
theorem und_uniq {xs ys fs : List Int} (h1 : el fs 0 = 1) : ∀ n, (∀ k, k < n → cvF (el ys) (el fs) k = el xs k) → ∀ k, k < n → el (und xs fs n) k = el ys k
  | 0, _, k, hk => absurd hk (by omega)
  | n + 1, h, k, hk => by
    have hlen := und_length xs fs n
    have ih := und_uniq h1 n (fun k hk => h k (by omega))
    by_cases e : k = n
    · subst e
      have e2 : sqS (fun i => el fs (i + 1) * el (und xs fs (k + 1)) (k - (i + 1))) k = sqS (fun i => el fs (i + 1) * el ys (k - (i + 1))) k := sqS_congr fun i hi => by
        rw [show el (und xs fs (k + 1)) (k - (i + 1)) = el (und xs fs k) (k - (i + 1)) from el_app (by rw [hlen]; omega), ih _ (by omega)]
      rw [und_el xs fs hk, e2, ← h k hk, cvF_comm]
      unfold cvF
      rw [sqS_head]
      show el fs 0 * el ys (k - 0) + _ - _ = _
      rw [h1, Int.one_mul, Nat.sub_zero]; omega
    · rw [show el (und xs fs (n + 1)) k = el (und xs fs n) k from el_app (by rw [hlen]; omega)]
      exact ih k (by omega)
end Go.Proofs.Ytnmhiagnmfpipaa
