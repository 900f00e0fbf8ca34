/-
  Butterflies: a transform of 2 n numbers out of two of n, by even and odd places, and by halves. No condition; plain lemmas.
-/
import Derived.Test.YtkigjnjbjbnidaaTrMath2
namespace Go.Proofs.Ytkigjnjbjbnidaa
open Go.RowKit

theorem sqS_pairs (f : Nat → Int) : ∀ n, sqS f (2 * n) = sqS (fun i => f (2 * i)) n + sqS (fun i => f (2 * i + 1)) n
  | 0 => rfl
  | n + 1 => by
    show sqS f (2 * n) + f (2 * n) + f (2 * n + 1) = (sqS (fun i => f (2 * i)) n + f (2 * n)) + (sqS (fun i => f (2 * i + 1)) n + f (2 * n + 1))
    rw [sqS_pairs f n]; omega
/-- The transform of n numbers with the root 2 ^ c. -/
def trG (n c : Nat) (f : Nat → Int) (k : Nat) : Int := sqS (fun j => f j * tw (c * (j * k))) n
theorem trG_16 (c : Nat) (f : Nat → Int) (k : Nat) : trG 16 c f k = trS c f k := rfl
theorem trG_cg {n c : Nat} {f g : Nat → Int} (h : ∀ j, j < n → cg (f j) (g j)) (k : Nat) : cg (trG n c f k) (trG n c g k) := cg.sum fun j hj => (h j hj).mul (cg.refl _)
theorem trG_congr {n c : Nat} {f g : Nat → Int} (h : ∀ j, j < n → f j = g j) (k : Nat) : trG n c f k = trG n c g k := sqS_congr fun j hj => by rw [h j hj]
theorem trG_one (c : Nat) (f : Nat → Int) (k : Nat) : trG 1 c f k = f 0 := by
  show 0 + f 0 * tw (c * (0 * k)) = f 0
  rw [Nat.zero_mul, Nat.mul_zero, show tw 0 = 1 from rfl]; omega
/-- Half a turn. -/
theorem tw_half (n : Nat) : cg (tw (n + 8)) (-tw n) := by
  refine (tw_add n 8).trans ?_
  rw [show tw 8 = 256 from rfl]
  unfold cg
  omega
theorem tw_halves {c n : Nat} (h : c * n % 16 = 8) (k : Nat) : cg (tw (c * (k + n))) (-tw (c * k)) := by
  refine cg.trans (cg_of_eq ?_) (tw_half (c * k))
  rw [← tw_mod (c * (k + n)), ← tw_mod (c * k + 8), Nat.mul_add]
  congr 1
  omega
/-- By even and odd places. -/
theorem trG_even_odd (n c : Nat) (f : Nat → Int) (k : Nat) : cg (trG (2 * n) c f k) (trG n (2 * c) (fun j => f (2 * j)) k + tw (c * k) * trG n (2 * c) (fun j => f (2 * j + 1)) k) := by
  have e : trG (2 * n) c f k = trG n (2 * c) (fun j => f (2 * j)) k + sqS (fun j => f (2 * j + 1) * tw (c * ((2 * j + 1) * k))) n := by
    unfold trG
    rw [sqS_pairs]
    congr 1
    exact sqS_congr fun j _ => by rw [show c * (2 * j * k) = 2 * c * (j * k) by rw [Nat.mul_assoc 2 j k, Nat.mul_left_comm, Nat.mul_assoc]]
  rw [e]
  refine (cg.refl _).add ?_
  unfold trG
  rw [← sqS_mul]
  refine cg.sum fun j _ => ?_
  rw [Int.mul_left_comm]
  refine (cg.refl _).mul ?_
  refine cg.trans (cg_of_eq ?_) (tw_add _ _)
  congr 1
  rw [Nat.add_mul, Nat.one_mul, Nat.mul_add, Nat.mul_assoc 2 j k, Nat.mul_left_comm c 2, Nat.mul_assoc 2 c]
  omega
theorem trG_turn {n c : Nat} (h : c * n % 16 = 0) (f : Nat → Int) (k : Nat) : trG n c f (k + n) = trG n c f k := sqS_congr fun j _ => by
  congr 1
  rw [← tw_mod (c * (j * (k + n))), ← tw_mod (c * (j * k))]
  congr 1
  rw [Nat.mul_add j k n, Nat.mul_add, Nat.mul_left_comm c j n, Nat.add_mod, Nat.mul_mod j, h, Nat.mul_zero, Nat.zero_mod, Nat.add_zero, Nat.mod_mod]
/-- The upper half of a transform. -/
theorem trG_upper {n c : Nat} (h : c * n % 16 = 8) (f : Nat → Int) (k : Nat) : cg (trG (2 * n) c f (k + n)) (trG n (2 * c) (fun j => f (2 * j)) k - tw (c * k) * trG n (2 * c) (fun j => f (2 * j + 1)) k) := by
  have h2 : 2 * c * n % 16 = 0 := by rw [Nat.mul_assoc]; omega
  refine (trG_even_odd n c f (k + n)).trans ?_
  rw [trG_turn h2, trG_turn h2, Int.sub_eq_add_neg, ← Int.neg_mul]
  exact (cg.refl _).add ((tw_halves h k).mul (cg.refl _))
/-- By halves. -/
theorem trG_even (n c : Nat) (h : c * n % 16 = 8) (f : Nat → Int) (k : Nat) : cg (trG (2 * n) c f (2 * k)) (trG n (2 * c) (fun j => f j + f (n + j)) k) := by
  have e : trG (2 * n) c f (2 * k) = sqS (fun j => f j * tw (c * (j * (2 * k)))) n + sqS (fun j => f (n + j) * tw (c * ((n + j) * (2 * k)))) n := by
    unfold trG
    rw [show 2 * n = n + n by omega, sqS_split]
  rw [e, ← sqS_add]
  refine cg.sum fun j _ => cg_of_eq ?_
  have e1 : c * (j * (2 * k)) = 2 * c * (j * k) := by rw [Nat.mul_left_comm j 2 k, Nat.mul_left_comm, Nat.mul_assoc]
  have e2 : tw (c * ((n + j) * (2 * k))) = tw (2 * c * (j * k)) := by
    rw [← tw_mod (c * ((n + j) * (2 * k))), ← tw_mod (2 * c * (j * k))]
    congr 1
    rw [Nat.add_mul, Nat.mul_add, e1, ← Nat.mul_assoc c n, ← Nat.mul_assoc (c * n) 2 k, Nat.add_mod, Nat.mul_mod (c * n * 2), show c * n * 2 % 16 = 0 by omega, Nat.zero_mul, Nat.zero_mod, Nat.zero_add, Nat.mod_mod]
  show f j * _ + f (n + j) * _ = (f j + f (n + j)) * _
  rw [e1, e2, Int.add_mul]
theorem trG_odd (n c : Nat) (h : c * n % 16 = 8) (f : Nat → Int) (k : Nat) : cg (trG (2 * n) c f (2 * k + 1)) (trG n (2 * c) (fun j => (f j - f (n + j)) * tw (c * j)) k) := by
  have e : trG (2 * n) c f (2 * k + 1) = sqS (fun j => f j * tw (c * (j * (2 * k + 1)))) n + sqS (fun j => f (n + j) * tw (c * ((n + j) * (2 * k + 1)))) n := by
    unfold trG
    rw [show 2 * n = n + n by omega, sqS_split]
  rw [e, ← sqS_add]
  refine cg.sum fun j _ => ?_
  have e1 : c * (j * (2 * k + 1)) = c * j + 2 * c * (j * k) := by
    rw [Nat.mul_add j, Nat.mul_one, Nat.mul_add, Nat.mul_left_comm j 2 k, Nat.mul_left_comm c 2, Nat.mul_assoc 2 c]; omega
  have e2 : cg (tw (c * ((n + j) * (2 * k + 1)))) (-(tw (c * j) * tw (2 * c * (j * k)))) := by
    have e3 : tw (c * ((n + j) * (2 * k + 1))) = tw (c * j + 2 * c * (j * k) + 8) := by
      rw [← tw_mod (c * ((n + j) * (2 * k + 1))), ← tw_mod (c * j + 2 * c * (j * k) + 8)]
      congr 1
      rw [Nat.add_mul n j, Nat.mul_add c, e1, ← Nat.mul_assoc c n, Nat.mul_add (c * n), Nat.mul_one, ← Nat.mul_assoc (c * n) 2 k]
      have h0 : c * n * 2 * k % 16 = 0 := by rw [Nat.mul_mod, show c * n * 2 % 16 = 0 by omega, Nat.zero_mul, Nat.zero_mod]
      omega
    rw [e3]
    refine (tw_half _).trans ?_
    have h4 := tw_add (c * j) (2 * c * (j * k))
    unfold cg at *
    omega
  show cg (f j * _ + f (n + j) * _) ((f j - f (n + j)) * tw (c * j) * tw (2 * c * (j * k)))
  rw [e1]
  have h5 := ((cg.refl (f j)).mul (tw_add (c * j) (2 * c * (j * k)))).add ((cg.refl (f (n + j))).mul e2)
  refine h5.trans (cg_of_eq ?_)
  rw [Int.mul_neg, Int.sub_mul, Int.sub_mul, Int.mul_assoc, Int.mul_assoc]; omega
end Go.Proofs.Ytkigjnjbjbnidaa
