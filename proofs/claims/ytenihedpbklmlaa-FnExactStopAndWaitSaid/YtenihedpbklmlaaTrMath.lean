/-
  A transform of sixteen numbers modulo 257: mathematics. No condition; plain lemmas.
-/
import Derived.Test.YtenihedpbklmlaaSeqMath
namespace Go.Proofs.Ytenihedpbklmlaa
open Go.RowKit

/-- Equal modulo 257. -/
def cg (a b : Int) : Prop := a % 257 = b % 257
theorem cg.refl (a : Int) : cg a a := rfl
theorem cg.symm {a b : Int} (h : cg a b) : cg b a := Eq.symm h
theorem cg.trans {a b c : Int} (h : cg a b) (h' : cg b c) : cg a c := Eq.trans h h'
theorem cg_of_eq {a b : Int} (h : a = b) : cg a b := by rw [h]; exact cg.refl _
theorem cg_mod (a : Int) : cg (a % 257) a := Int.emod_emod_of_dvd a (Int.dvd_refl 257)
theorem cg.add {a b c d : Int} (h : cg a b) (h' : cg c d) : cg (a + c) (b + d) := by
  unfold cg at *
  rw [Int.add_emod, h, h', ← Int.add_emod]
theorem cg.mul {a b c d : Int} (h : cg a b) (h' : cg c d) : cg (a * c) (b * d) := by
  unfold cg at *
  rw [Int.mul_emod, h, h', ← Int.mul_emod]
theorem cg.sub {a b c d : Int} (h : cg a b) (h' : cg c d) : cg (a - c) (b - d) := by
  unfold cg at *
  rw [Int.sub_emod, h, h', ← Int.sub_emod]
theorem cg.sum {f g : Nat → Int} : ∀ {n : Nat}, (∀ i, i < n → cg (f i) (g i)) → cg (sqS f n) (sqS g n)
  | 0, _ => rfl
  | n + 1, h => (cg.sum (n := n) fun i hi => h i (by omega)).add (h n (by omega))
/-- A number in the range is known by its class. -/
theorem cg_eq {a b : Int} (h : cg a b) (ha : 0 ≤ a ∧ a < 257) (hb : 0 ≤ b ∧ b < 257) : a = b := by
  unfold cg at h
  omega
theorem sqS_swap (g : Nat → Nat → Int) (n : Nat) : ∀ m, sqS (fun i => sqS (fun j => g i j) n) m = sqS (fun j => sqS (fun i => g i j) m) n
  | 0 => (sqS_zero (f := fun j => sqS (fun i => g i j) 0) fun _ _ => rfl).symm
  | m + 1 => by
    show sqS (fun i => sqS (fun j => g i j) n) m + sqS (fun j => g m j) n = sqS (fun j => sqS (fun i => g i j) m + g m j) n
    rw [sqS_swap g n m, sqS_add]
/-- A sum over all places, turned round a circle. -/
theorem sqS_turn (g : Nat → Int) {c : Nat} (hc : c ≤ 16) : sqS (fun j => g ((j + c) % 16)) 16 = sqS g 16 := by
  have h1 := sqS_split (fun j => g ((j + c) % 16)) (16 - c) c
  rw [show 16 - c + c = 16 by omega] at h1
  have h2 := sqS_split g c (16 - c)
  rw [show c + (16 - c) = 16 by omega] at h2
  rw [h1, h2, sqS_congr (g := fun i => g (c + i)) fun i hi => by rw [show (i + c) % 16 = c + i by omega], sqS_congr (f := fun i => g ((16 - c + i + c) % 16)) (g := g) fun i hi => by rw [show (16 - c + i + c) % 16 = i by omega]]
  omega
/-- Powers of the root. -/
def tw (n : Nat) : Int := 2 ^ (n % 16) % 257
theorem tw_turn (n : Nat) : tw (n + 16) = tw n := by unfold tw; rw [Nat.add_mod_right]
theorem tw_mod (n : Nat) : tw (n % 16) = tw n := by unfold tw; rw [Nat.mod_mod]
theorem tw_tab : ∀ m, m < 16 → ∀ n, n < 16 → tw (m + n) % 257 = (tw m * tw n) % 257 := by decide +kernel
theorem tw_add (m n : Nat) : cg (tw (m + n)) (tw m * tw n) := by
  have h := tw_tab (m % 16) (Nat.mod_lt _ (by decide)) (n % 16) (Nat.mod_lt _ (by decide))
  rw [tw_mod, tw_mod] at h
  have e : tw (m % 16 + n % 16) = tw (m + n) := by unfold tw; rw [← Nat.add_mod]
  rw [e] at h
  exact h
theorem tw_mul_mod (m n : Nat) : tw (m % 16 * n) = tw (m * n) := by unfold tw; rw [Nat.mod_mul_mod]
theorem tw_mul_mod' (m n : Nat) : tw (m * (n % 16)) = tw (m * n) := by unfold tw; rw [Nat.mul_mod, Nat.mod_mod, ← Nat.mul_mod]
theorem orth_tab : ∀ r, r < 16 → sqS (fun k => tw (k * r)) 16 % 257 = (if r = 0 then 16 else 0) % 257 := by decide +kernel
/-- Sums of powers. -/
theorem orth (m : Nat) : cg (sqS (fun k => tw (k * m)) 16) (if m % 16 = 0 then 16 else 0) := by
  have h := orth_tab (m % 16) (Nat.mod_lt _ (by decide))
  rw [sqS_congr (g := fun k => tw (k * m)) fun k _ => tw_mul_mod' k m] at h
  exact h
/-- The transform with powers of a root 2 ^ c. -/
def trS (c : Nat) (f : Nat → Int) (k : Nat) : Int := sqS (fun j => f j * tw (c * (j * k))) 16
def ftF (f : Nat → Int) (k : Nat) : Int := trS 1 f k % 257
def btF (f : Nat → Int) (k : Nat) : Int := 241 * trS 15 f k % 257
theorem ftF_in (f : Nat → Int) (k : Nat) : 0 ≤ ftF f k ∧ ftF f k < 257 := ⟨Int.emod_nonneg _ (by decide), Int.emod_lt_of_pos _ (by decide)⟩
theorem btF_in (f : Nat → Int) (k : Nat) : 0 ≤ btF f k ∧ btF f k < 257 := ⟨Int.emod_nonneg _ (by decide), Int.emod_lt_of_pos _ (by decide)⟩
theorem trS_cg {c : Nat} {f g : Nat → Int} (h : ∀ j, j < 16 → cg (f j) (g j)) (k : Nat) : cg (trS c f k) (trS c g k) := cg.sum fun j hj => (h j hj).mul (cg.refl _)
theorem trS_congr {c : Nat} {f g : Nat → Int} (h : ∀ j, j < 16 → f j = g j) (k : Nat) : trS c f k = trS c g k := sqS_congr fun j hj => by rw [h j hj]
theorem ftF_congr {f g : Nat → Int} (h : ∀ j, j < 16 → f j = g j) (k : Nat) : ftF f k = ftF g k := by unfold ftF; rw [trS_congr h]
theorem btF_congr {f g : Nat → Int} (h : ∀ j, j < 16 → f j = g j) (k : Nat) : btF f k = btF g k := by unfold btF; rw [trS_congr h]
theorem pick_sum {f : Nat → Int} {m : Nat} (hm : m < 16) {p : Nat → Prop} [DecidablePred p] (hp : ∀ j, j < 16 → (p j ↔ j = m)) : sqS (fun j => f j * if p j then 16 else 0) 16 = 16 * f m := by
  have e : ∀ n, n ≤ 16 → sqS (fun j => f j * if p j then 16 else 0) n = if m < n then 16 * f m else 0 := fun n => by
    induction n with
    | zero => intro _; rw [if_neg (by omega)]; rfl
    | succ n ih =>
      intro hn
      show sqS _ n + f n * (if p n then 16 else 0) = _
      rw [ih (by omega)]
      by_cases h1 : n = m
      · subst h1
        rw [if_neg (by omega), if_pos ((hp n (by omega)).2 rfl), if_pos (by omega)]; omega
      · rw [if_neg (fun h => h1 ((hp n (by omega)).1 h))]
        by_cases h2 : m < n
        · rw [if_pos h2, if_pos (by omega)]; omega
        · rw [if_neg h2, if_neg (by omega), Int.mul_zero]; rfl
  rw [e 16 (Nat.le_refl _), if_pos hm]
/-- One transform behind another. -/
theorem tr_tr (c d : Nat) (f : Nat → Int) (m : Nat) : cg (trS d (trS c f) m) (sqS (fun j => f j * if (c * j + d * m) % 16 = 0 then 16 else 0) 16) := by
  have e1 : trS d (trS c f) m = sqS (fun k => sqS (fun j => f j * tw (c * (j * k)) * tw (d * (k * m))) 16) 16 := sqS_congr fun k _ => by
    show trS c f k * _ = _
    unfold trS
    rw [← sqS_mulR]
  rw [e1, sqS_swap]
  refine cg.sum fun j _ => ?_
  have e2 : cg (sqS (fun k => f j * tw (c * (j * k)) * tw (d * (k * m))) 16) (sqS (fun k => f j * tw (k * (c * j + d * m))) 16) := cg.sum fun k _ => by
    rw [Int.mul_assoc]
    refine (cg.refl _).mul ?_
    rw [show k * (c * j + d * m) = c * (j * k) + d * (k * m) by rw [Nat.mul_add, Nat.mul_left_comm k c j, Nat.mul_comm k j, Nat.mul_left_comm k d m]]
    exact (tw_add _ _).symm
  refine e2.trans ?_
  rw [sqS_mul]
  exact (cg.refl _).mul (orth _)
theorem trS_of_mod (c : Nat) (f : Nat → Int) (k : Nat) : cg (trS c (fun j => f j % 257) k) (trS c f k) := trS_cg (fun _ _ => cg_mod _) k
/-- Backward behind forward. -/
theorem bt_ft {f : Nat → Int} (hf : ∀ j, j < 16 → 0 ≤ f j ∧ f j < 257) {m : Nat} (hm : m < 16) : btF (ftF f) m = f m := by
  refine cg_eq ?_ (btF_in _ _) (hf m hm)
  refine (cg_mod _).trans ?_
  have h1 : cg (trS 15 (ftF f) m) (16 * f m) := by
    refine (trS_of_mod 15 (trS 1 f) m).trans ((tr_tr 1 15 f m).trans ?_)
    rw [pick_sum hm (p := fun j => (1 * j + 15 * m) % 16 = 0) fun j hj => by omega]
    exact cg.refl _
  refine ((cg.refl 241).mul h1).trans ?_
  rw [← Int.mul_assoc]
  show (241 * 16 * f m) % 257 = f m % 257
  omega
theorem ft_bt {f : Nat → Int} (hf : ∀ j, j < 16 → 0 ≤ f j ∧ f j < 257) {m : Nat} (hm : m < 16) : ftF (btF f) m = f m := by
  refine cg_eq ?_ (ftF_in _ _) (hf m hm)
  refine (cg_mod _).trans ?_
  have h0 : trS 1 (fun j => 241 * trS 15 f j) m = 241 * trS 1 (trS 15 f) m := by
    show sqS _ 16 = _
    rw [sqS_congr (g := fun j => 241 * (trS 15 f j * tw (1 * (j * m)))) fun _ _ => by rw [Int.mul_assoc], sqS_mul]; rfl
  have h1 : cg (trS 1 (btF f) m) (241 * trS 1 (trS 15 f) m) := by
    rw [← h0]
    exact trS_of_mod 1 (fun j => 241 * trS 15 f j) m
  refine h1.trans (((cg.refl 241).mul (tr_tr 15 1 f m)).trans ?_)
  rw [pick_sum hm (p := fun j => (15 * j + 1 * m) % 16 = 0) fun j hj => by omega, ← Int.mul_assoc]
  show (241 * 16 * f m) % 257 = f m % 257
  omega
/-- Twice forward. -/
theorem ft_ft (f : Nat → Int) {k : Nat} (hk : k < 16) : ftF (ftF f) k = 16 * f ((16 - k) % 16) % 257 := by
  refine ((trS_of_mod 1 (trS 1 f) k).trans (tr_tr 1 1 f k)).trans ?_
  rw [pick_sum (m := (16 - k) % 16) (Nat.mod_lt _ (by decide)) (p := fun j => (1 * j + 1 * k) % 16 = 0) fun j hj => by omega]
  exact cg.refl _
/-- Sums. -/
theorem ft_add (a b : Nat → Int) (k : Nat) : ftF (fun j => (a j + b j) % 257) k = (ftF a k + ftF b k) % 257 := by
  refine (trS_of_mod 1 (fun j => a j + b j) k).trans ?_
  have e : trS 1 (fun j => a j + b j) k = trS 1 a k + trS 1 b k := by
    unfold trS
    rw [← sqS_add]
    exact sqS_congr fun j _ => Int.add_mul _ _ _
  rw [e]
  exact ((cg_mod _).add (cg_mod _)).symm
theorem ft_first (f : Nat → Int) : ftF f 0 = sqS f 16 % 257 := by
  unfold ftF trS
  rw [sqS_congr (g := f) fun j _ => by rw [Nat.mul_zero, Nat.mul_zero, show tw 0 = 1 from rfl, Int.mul_one]]
theorem ft_flat {c : Int} (hc : 0 ≤ c ∧ c < 257) (k : Nat) : ftF (fun j => if j = 0 then c else 0) k = c := by
  unfold ftF trS
  rw [sqS_head, sqS_zero (n := 15) fun i _ => by show (if i + 1 = 0 then c else 0) * _ = 0; rw [if_neg (by omega), Int.zero_mul]]
  show ((if 0 = 0 then c else 0) * tw (1 * (0 * k)) + 0) % 257 = c
  rw [if_pos rfl, Nat.zero_mul, Nat.mul_zero, show tw 0 = 1 from rfl]
  omega
/-- Shifts. -/
theorem ft_shift (f : Nat → Int) (k : Nat) : ftF (fun j => f ((j + 15) % 16)) k = ftF f k * tw k % 257 := by
  have h1 : cg (trS 1 (fun j => f ((j + 15) % 16)) k) (sqS (fun j => f ((j + 15) % 16) * tw (1 * ((j + 15) % 16 * k)) * tw k) 16) := cg.sum fun j hj => by
    rw [Int.mul_assoc]
    refine (cg.refl _).mul ?_
    refine cg.trans (cg_of_eq ?_) (tw_add (1 * ((j + 15) % 16 * k)) k)
    have e : 1 * ((j + 15) % 16 * k) + k = ((j + 15) % 16 + 1) * k := by rw [Nat.one_mul, Nat.add_mul, Nat.one_mul]
    rw [e, ← tw_mul_mod ((j + 15) % 16 + 1) k, show ((j + 15) % 16 + 1) % 16 = j by omega, Nat.one_mul]
  refine h1.trans ?_
  rw [sqS_turn (fun j => f j * tw (1 * (j * k)) * tw k) (by omega), sqS_mulR]
  exact (cg_mod _).symm.mul (cg.refl _)
/-- The cyclic convolution. -/
def cpS (a b : Nat → Int) (k : Nat) : Int := sqS (fun j => a j * b ((k + 16 - j) % 16)) 16
def cpF (a b : Nat → Int) (k : Nat) : Int := cpS a b k % 257
theorem cpF_in (a b : Nat → Int) (k : Nat) : 0 ≤ cpF a b k ∧ cpF a b k < 257 := ⟨Int.emod_nonneg _ (by decide), Int.emod_lt_of_pos _ (by decide)⟩
theorem cpF_congr {a b c d : Nat → Int} (h : ∀ j, j < 16 → a j = c j) (h' : ∀ j, j < 16 → b j = d j) (k : Nat) : cpF a b k = cpF c d k := by
  unfold cpF cpS
  rw [sqS_congr fun j hj => by rw [h j hj, h' _ (Nat.mod_lt _ (by decide))]]
theorem cpF_comm (a b : Nat → Int) {k : Nat} (hk : k < 16) : cpF b a k = cpF a b k := by
  unfold cpF cpS
  congr 1
  rw [← sqS_rev 16 fun j => a j * b ((k + 16 - j) % 16), ← sqS_turn (fun i => a (16 - 1 - i) * b ((k + 16 - (16 - 1 - i)) % 16)) (c := 15 - k) (by omega)]
  refine sqS_congr fun j hj => ?_
  rw [Int.mul_comm, show 16 - 1 - (j + (15 - k)) % 16 = (k + 16 - j) % 16 by omega, show (k + 16 - (k + 16 - j) % 16) % 16 = j by omega]
theorem ft_cp (a b : Nat → Int) (m : Nat) : ftF (cpF a b) m = ftF a m * ftF b m % 257 := by
  refine (trS_of_mod 1 (cpS a b) m).trans ?_
  have e1 : trS 1 (cpS a b) m = sqS (fun j => sqS (fun k => a j * (b ((k + 16 - j) % 16) * tw (1 * (k * m)))) 16) 16 := by
    rw [← sqS_swap]
    refine sqS_congr fun k _ => ?_
    show cpS a b k * _ = _
    unfold cpS
    rw [← sqS_mulR]
    exact sqS_congr fun j _ => Int.mul_assoc _ _ _
  rw [e1]
  have e2 : cg (sqS (fun j => sqS (fun k => a j * (b ((k + 16 - j) % 16) * tw (1 * (k * m)))) 16) 16) (sqS (fun j => a j * tw (1 * (j * m)) * trS 1 b m) 16) := cg.sum fun j hj => by
    rw [sqS_mul, Int.mul_assoc]
    refine (cg.refl _).mul ?_
    have e3 : cg (sqS (fun k => b ((k + 16 - j) % 16) * tw (1 * (k * m))) 16) (sqS (fun k => tw (1 * (j * m)) * (b ((k + 16 - j) % 16) * tw (1 * ((k + 16 - j) % 16 * m)))) 16) := cg.sum fun k hk => by
      rw [Int.mul_left_comm]
      refine (cg.refl _).mul ?_
      refine cg.trans (cg_of_eq ?_) (tw_add _ _)
      rw [Nat.one_mul, Nat.one_mul, Nat.one_mul, ← Nat.add_mul, ← tw_mul_mod (j + (k + 16 - j) % 16) m, show (j + (k + 16 - j) % 16) % 16 = k by omega]
    refine e3.trans (cg_of_eq ?_)
    rw [sqS_mul]
    congr 1
    rw [sqS_congr (g := fun k => (fun i => b i * tw (1 * (i * m))) ((k + (16 - j)) % 16)) fun k _ => by rw [show k + 16 - j = k + (16 - j) by omega], sqS_turn (fun i => b i * tw (1 * (i * m))) (by omega)]
    rfl
  refine e2.trans ?_
  rw [sqS_mulR]
  exact ((cg_mod _).mul (cg_mod _)).symm
/-- A prefix of three numbers makes a filter of four numbers cyclic. -/
theorem pre_cp (a t : Nat → Int) (ht : ∀ j, 4 ≤ j → t j = 0) {k : Nat} : sqS (fun j => t j * a ((3 + k - j + 13) % 16)) 4 % 257 = cpF t a k := by
  unfold cpF cpS
  congr 1
  rw [sqS_tail (f := fun j => t j * a ((k + 16 - j) % 16)) (n := 4) (m := 16) (by omega) fun j hj => by rw [ht j hj, Int.zero_mul]]
  exact sqS_congr fun j hj => by rw [show 3 + k - j + 13 = k + 16 - j by omega]
/-- A number as a linear form of the sixteen numbers. -/
def lnF (f r : Nat → Int) : Int := sqS (fun j => f j * r j) 16
theorem lnF_unit (f : Nat → Int) {i : Nat} (hi : i < 16) : lnF f (fun j => if j = i then 1 else 0) = f i := by
  have h := pick_sum (f := f) hi (p := fun j => j = i) fun j _ => Iff.rfl
  have e : 16 * lnF f (fun j => if j = i then 1 else 0) = sqS (fun j => f j * if j = i then 16 else 0) 16 := by
    unfold lnF
    rw [← sqS_mul]
    refine sqS_congr fun j _ => ?_
    show 16 * (f j * if j = i then 1 else 0) = f j * if j = i then 16 else 0
    split <;> omega
  rw [h] at e
  omega
theorem lnF_add (f r s : Nat → Int) : lnF f (fun j => r j + s j) = lnF f r + lnF f s := by
  unfold lnF
  rw [← sqS_add]
  exact sqS_congr fun j _ => Int.mul_add _ _ _
theorem lnF_mul (f r : Nat → Int) (c : Int) : lnF f (fun j => r j * c) = lnF f r * c := by
  unfold lnF
  rw [← sqS_mulR]
  exact sqS_congr fun j _ => (Int.mul_assoc _ _ _).symm
theorem lnF_sub (f r s : Nat → Int) : lnF f (fun j => r j - s j) = lnF f r - lnF f s := by
  have e : lnF f (fun j => r j - s j) = lnF f (fun j => r j + s j * -1) := by
    unfold lnF
    exact sqS_congr fun j _ => by show f j * (r j - s j) = f j * (r j + s j * -1); rw [Int.sub_eq_add_neg, Int.mul_neg, Int.mul_one]
  rw [e, lnF_add, lnF_mul]; omega
theorem lnF_cg (f : Nat → Int) {r s : Nat → Int} (h : ∀ j, j < 16 → cg (r j) (s j)) : cg (lnF f r) (lnF f s) := cg.sum fun j hj => (cg.refl _).mul (h j hj)
theorem lnF_tr (f : Nat → Int) (c k : Nat) : lnF f (fun j => tw (c * (j * k))) = trS c f k := rfl
end Go.Proofs.Ytenihedpbklmlaa
