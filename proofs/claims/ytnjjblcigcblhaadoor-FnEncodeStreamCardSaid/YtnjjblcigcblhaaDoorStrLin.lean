/-
  The stream code is linear: the code of the sum of two lists is the sum of their codes; plain mathematics. Condition: two valid lists of equal length.
-/
import Derived.Test.YtnjjblcigcblhaaDoorStrList
namespace Go.Proofs.YtnjjblcigcblhaaDoor
open Go.RowKit

theorem sumBits_cons (x y : Int) (xs ys : List Int) : sumBits (x :: xs) (y :: ys) = (if (decide (x = 1) != decide (y = 1)) then 1 else 0) :: sumBits xs ys := by
  refine list_ext (by simp [sumBits_length]) fun i hi => ?_
  rw [sumBits_length] at hi
  rw [sumBits_el _ _ _ hi]
  cases i with
  | zero => rw [xorF_at hi]; rfl
  | succ i =>
    have hi' : i < xs.length := by simpa using hi
    rw [xorF_at hi, el_cons, el_cons, el_cons, sumBits_el _ _ _ hi', xorF_at hi']
theorem bit_sum {a b : Nat} (ha : a < 2) (hb : b < 2) : (if (decide ((a : Int) = 1) != decide ((b : Int) = 1)) then (1 : Int) else 0) = ((a ^^^ b : Nat) : Int) := by
  obtain rfl | rfl : a = 0 ∨ a = 1 := by omega
  · obtain rfl | rfl : b = 0 ∨ b = 1 := by omega
    · rfl
    · rfl
  · obtain rfl | rfl : b = 0 ∨ b = 1 := by omega
    · rfl
    · rfl
theorem sum_ints : ∀ (l m : List Nat), l.length = m.length → Bits2 l → Bits2 m → sumBits (ints l) (ints m) = ints (List.zipWith (· ^^^ ·) l m)
  | [], [], _, _, _ => rfl
  | [], _ :: _, h, _, _ => by simp at h
  | _ :: _, [], h, _, _ => by simp at h
  | x :: l, y :: m, h, hl, hm => by
    show sumBits ((x : Int) :: ints l) ((y : Int) :: ints m) = _
    rw [sumBits_cons, sum_ints l m (by simpa using h) hl.cons.2 hm.cons.2, bit_sum hl.cons.1 hm.cons.1]
    rfl
def pX (p q : Nat × Nat) : Nat × Nat := (p.1 ^^^ q.1, p.2 ^^^ q.2)
theorem sum_flat : ∀ (ps qs : List (Nat × Nat)), ps.length = qs.length → Pairs2 ps → Pairs2 qs → sumBits (flat ps) (flat qs) = flat (List.zipWith pX ps qs)
  | [], [], _, _, _ => rfl
  | [], _ :: _, h, _, _ => by simp at h
  | _ :: _, [], h, _, _ => by simp at h
  | p :: ps, q :: qs, h, hp, hq => by
    rw [flat, flat, sumBits_cons, sumBits_cons, sum_flat ps qs (by simpa using h) hp.cons.2.2 hq.cons.2.2, bit_sum hp.cons.1 hq.cons.1, bit_sum hp.cons.2.1 hq.cons.2.1]
    rfl
theorem xor_mix (a b c d : Nat) : (a ^^^ b) ^^^ (c ^^^ d) = (a ^^^ c) ^^^ (b ^^^ d) := Nat.eq_of_testBit_eq fun i => by
  simp only [Nat.testBit_xor]
  cases a.testBit i <;> cases b.testBit i <;> cases c.testBit i <;> cases d.testBit i <;> rfl
theorem enc_lin : ∀ (l m : List Nat) (a b a' b' : Nat), l.length = m.length → sEnc (a ^^^ a') (b ^^^ b') (List.zipWith (· ^^^ ·) l m) = List.zipWith pX (sEnc a b l) (sEnc a' b' m)
  | [], [], _, _, _, _, _ => rfl
  | [], _ :: _, _, _, _, _, h => by simp at h
  | _ :: _, [], _, _, _, _, h => by simp at h
  | x :: l, y :: m, a, b, a', b', h => by
    simp only [List.zipWith_cons_cons, sEnc]
    rw [enc_lin l m x a y a' (by simpa using h)]
    congr 1
    simp only [pX, op1, op2, Prod.mk.injEq]
    exact ⟨by rw [xor_mix x y a a', xor_mix (x ^^^ a) (y ^^^ a') b b'], xor_mix x y b b'⟩
theorem tailed_sum {xs ys : List Int} (hx : xs.all isBit = true) (hy : ys.all isBit = true) (hl : xs.length = ys.length) : tailed (sumBits xs ys) = List.zipWith (· ^^^ ·) (tailed xs) (tailed ys) := by
  have e : sumBits xs ys = ints (List.zipWith (· ^^^ ·) (nats xs) (nats ys)) := by
    have := sum_ints (nats xs) (nats ys) (by rw [nats_length, nats_length, hl]) (nats_bits hx) (nats_bits hy)
    rwa [ints_nats hx, ints_nats hy] at this
  unfold tailed
  rw [e, nats_ints, List.zipWith_append (by rw [nats_length, nats_length, hl])]
  rfl
theorem code_lin {xs ys : List Int} (hx : strOk xs = true) (hy : strOk ys = true) (hl : xs.length = ys.length) : strOr (sumOr xs ys) = sumOr (strOr xs) (strOr ys) := by
  obtain ⟨x1, x2⟩ := strOk_parts hx
  obtain ⟨y1, y2⟩ := strOk_parts hy
  have hp : pairOk xs ys = true := by
    simp only [pairOk, Bool.and_eq_true, decide_eq_true_eq]
    exact ⟨⟨bitsOk_both (by omega) x2, bitsOk_both (by omega) y2⟩, hl⟩
  have cx := codeL_length xs
  have cy := codeL_length ys
  have hq : pairOk (codeL xs) (codeL ys) = true := by
    simp only [pairOk, Bool.and_eq_true, decide_eq_true_eq]
    exact ⟨⟨bitsOk_both (by omega) (codeL_bits x2), bitsOk_both (by omega) (codeL_bits y2)⟩, by omega⟩
  have hs : strOk (sumBits xs ys) = true := strOk_mk (by rw [sumBits_length]; exact x1) (bitsOk_parts (sumBits_ok (by omega))).2
  rw [strOr_yes hx, strOr_yes hy, sumOr, if_pos hp, sumOr, if_pos hq, strOr_yes hs]
  unfold codeL
  rw [tailed_sum x2 y2 hl, sum_flat _ _ (by rw [sEnc_length, sEnc_length, tailed_length, tailed_length, hl]) (codeL_pairs x2) (codeL_pairs y2)]
  have := enc_lin (tailed xs) (tailed ys) 0 0 0 0 (by rw [tailed_length, tailed_length, hl])
  rw [Nat.xor_self] at this
  rw [this]
end Go.Proofs.YtnjjblcigcblhaaDoor
