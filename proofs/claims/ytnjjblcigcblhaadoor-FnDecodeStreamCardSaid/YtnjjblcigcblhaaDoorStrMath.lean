/-
  The stream code: its code, the distance of codes, the best bits by survivors from the end and by paths from the beginning; plain mathematics. Condition: the numbers are bits, where a lemma says so.
-/
import Derived.Test.YtnjjblcigcblhaaDoorBase
namespace Go.Proofs.YtnjjblcigcblhaaDoor
open Go.RowKit

/-- The two bits of the code at a place: the bit x, the bit a before it, the bit b before that. -/
def op1 (a b x : Nat) : Nat := x ^^^ a ^^^ b
def op2 (b x : Nat) : Nat := x ^^^ b
def sEnc (a b : Nat) : List Nat → List (Nat × Nat)
  | [] => []
  | x :: xs => (op1 a b x, op2 b x) :: sEnc x a xs
/-- The last two bits: the state behind a list. -/
def sFin (a b : Nat) : List Nat → Nat × Nat
  | [] => (a, b)
  | x :: xs => sFin x a xs
def Bits2 (l : List Nat) : Prop := ∀ x ∈ l, x < 2
def Pairs2 (l : List (Nat × Nat)) : Prop := ∀ p ∈ l, p.1 < 2 ∧ p.2 < 2
theorem xor_bit {a b : Nat} (ha : a < 2) (hb : b < 2) : a ^^^ b < 2 := Nat.xor_lt_two_pow (n := 1) ha hb
theorem op1_lt {a b x : Nat} (ha : a < 2) (hb : b < 2) (hx : x < 2) : op1 a b x < 2 := xor_bit (xor_bit hx ha) hb
theorem op2_lt {b x : Nat} (hb : b < 2) (hx : x < 2) : op2 b x < 2 := xor_bit hx hb
theorem Bits2.cons {x : Nat} {l : List Nat} (h : Bits2 (x :: l)) : x < 2 ∧ Bits2 l := ⟨h x (by simp), fun y hy => h y (by simp [hy])⟩
theorem Bits2.mk {x : Nat} {l : List Nat} (h : x < 2) (h2 : Bits2 l) : Bits2 (x :: l) := fun y hy => by
  rcases List.mem_cons.1 hy with rfl | hy
  · exact h
  · exact h2 y hy
theorem Bits2.nil : Bits2 [] := fun _ h => by simp at h
theorem Bits2.app {l m : List Nat} (h : Bits2 l) (h2 : Bits2 m) : Bits2 (l ++ m) := fun y hy => by
  rcases List.mem_append.1 hy with hy | hy
  · exact h y hy
  · exact h2 y hy
theorem Bits2.left {l m : List Nat} (h : Bits2 (l ++ m)) : Bits2 l := fun y hy => h y (List.mem_append.2 (.inl hy))
theorem Bits2.take {l : List Nat} (h : Bits2 l) (n : Nat) : Bits2 (l.take n) := fun y hy => h y (List.mem_of_mem_take hy)
theorem sEnc_length : ∀ (xs : List Nat) (a b : Nat), (sEnc a b xs).length = xs.length
  | [], _, _ => rfl
  | x :: xs, a, b => by simp [sEnc, sEnc_length xs x a]
theorem sEnc_pairs : ∀ (xs : List Nat) (a b : Nat), a < 2 → b < 2 → Bits2 xs → Pairs2 (sEnc a b xs)
  | [], _, _, _, _, _ => fun p h => by simp [sEnc] at h
  | x :: xs, a, b, ha, hb, h => fun p hp => by
    obtain ⟨h1, h2⟩ := h.cons
    rcases List.mem_cons.1 hp with rfl | hp
    · exact ⟨op1_lt ha hb h1, op2_lt hb h1⟩
    · exact sEnc_pairs xs x a h1 ha h2 p hp
theorem sFin_app : ∀ (xs ys : List Nat) (a b : Nat), sFin a b (xs ++ ys) = sFin (sFin a b xs).1 (sFin a b xs).2 ys
  | [], _, _, _ => rfl
  | x :: xs, ys, a, _ => sFin_app xs ys x a
theorem sEnc_app : ∀ (xs ys : List Nat) (a b : Nat), sEnc a b (xs ++ ys) = sEnc a b xs ++ sEnc (sFin a b xs).1 (sFin a b xs).2 ys
  | [], _, _, _ => rfl
  | x :: xs, ys, a, b => by simp [sEnc, sFin, sEnc_app xs ys x a]
theorem sFin_lt : ∀ (xs : List Nat) (a b : Nat), a < 2 → b < 2 → Bits2 xs → (sFin a b xs).1 < 2 ∧ (sFin a b xs).2 < 2
  | [], _, _, ha, hb, _ => ⟨ha, hb⟩
  | x :: xs, a, _, ha, _, h => sFin_lt xs x a h.cons.1 ha h.cons.2
theorem sFin_snoc (xs : List Nat) (x a b : Nat) : sFin a b (xs ++ [x]) = (x, (sFin a b xs).1) := by rw [sFin_app]; rfl
theorem sEnc_snoc (xs : List Nat) (x a b : Nat) : sEnc a b (xs ++ [x]) = sEnc a b xs ++ [(op1 (sFin a b xs).1 (sFin a b xs).2 x, op2 (sFin a b xs).2 x)] := by rw [sEnc_app]; rfl

/-- The distance of two lists of pairs. -/
def hdP : List (Nat × Nat) → List (Nat × Nat) → Nat
  | p :: ps, q :: qs => (p.1 ^^^ q.1) + (p.2 ^^^ q.2) + hdP ps qs
  | _, _ => 0
def dS (a b x : Nat) (r : Nat × Nat) : Nat := (op1 a b x ^^^ r.1) + (op2 b x ^^^ r.2)
def sCost (a b : Nat) (xs : List Nat) (rs : List (Nat × Nat)) : Nat := hdP (sEnc a b xs) rs
theorem sCost_cons (a b x : Nat) (xs : List Nat) (r : Nat × Nat) (rs : List (Nat × Nat)) : sCost a b (x :: xs) (r :: rs) = dS a b x r + sCost x a xs rs := rfl
theorem sCost_nil (a b : Nat) (rs : List (Nat × Nat)) : sCost a b [] rs = 0 := by cases rs <;> rfl
theorem sCost_snoc : ∀ (xs : List Nat) (rs : List (Nat × Nat)) (a b x : Nat) (r : Nat × Nat), xs.length = rs.length → sCost a b (xs ++ [x]) (rs ++ [r]) = sCost a b xs rs + dS (sFin a b xs).1 (sFin a b xs).2 x r
  | [], [], a, b, x, r, _ => by simp [sCost, sEnc, hdP, sFin, dS]
  | [], _ :: _, _, _, _, _, h => by simp at h
  | _ :: _, [], _, _, _, _, h => by simp at h
  | y :: xs, q :: rs, a, b, x, r, h => by
    have ih := sCost_snoc xs rs y a x r (by simpa using h)
    rw [List.cons_append, List.cons_append, sCost_cons, sCost_cons, ih, sFin]
    omega
theorem sCost_self (a b : Nat) : ∀ xs : List Nat, sCost a b xs (sEnc a b xs) = 0 := fun xs => by
  unfold sCost
  generalize sEnc a b xs = l
  induction l with
  | nil => rfl
  | cons p l ih => simp [hdP, ih]
theorem hdP_comm : ∀ (ps qs : List (Nat × Nat)), hdP ps qs = hdP qs ps
  | [], [] | [], _ :: _ | _ :: _, [] => rfl
  | p :: ps, q :: qs => by rw [hdP, hdP, hdP_comm ps qs, Nat.xor_comm p.1, Nat.xor_comm p.2]
theorem xor_tri {a b c : Nat} (ha : a < 2) (hb : b < 2) (hc : c < 2) : a ^^^ c ≤ (a ^^^ b) + (b ^^^ c) := by
  have : ∀ a, a < 2 → ∀ b, b < 2 → ∀ c, c < 2 → a ^^^ c ≤ (a ^^^ b) + (b ^^^ c) := by decide
  exact this a ha b hb c hc
theorem xz_iff {a b : Nat} (ha : a < 2) (hb : b < 2) : a ^^^ b = 0 ↔ a = b := by
  have : ∀ a, a < 2 → ∀ b, b < 2 → (a ^^^ b = 0 ↔ a = b) := by decide
  exact this a ha b hb
theorem Pairs2.cons {p : Nat × Nat} {l : List (Nat × Nat)} (h : Pairs2 (p :: l)) : p.1 < 2 ∧ p.2 < 2 ∧ Pairs2 l := ⟨(h p (by simp)).1, (h p (by simp)).2, fun y hy => h y (by simp [hy])⟩
theorem hdP_tri : ∀ (ps qs rs : List (Nat × Nat)), ps.length = qs.length → qs.length = rs.length → Pairs2 ps → Pairs2 qs → Pairs2 rs → hdP ps rs ≤ hdP ps qs + hdP qs rs
  | [], _, rs, _, _, _, _, _ => by cases rs <;> simp [hdP]
  | _ :: _, [], _, h, _, _, _, _ => by simp at h
  | _ :: _, _ :: _, [], _, h, _, _, _ => by simp at h
  | p :: ps, q :: qs, r :: rs, h1, h2, hp, hq, hr => by
    have ih := hdP_tri ps qs rs (by simpa using h1) (by simpa using h2) hp.cons.2.2 hq.cons.2.2 hr.cons.2.2
    have t1 := xor_tri hp.cons.1 hq.cons.1 hr.cons.1
    have t2 := xor_tri hp.cons.2.1 hq.cons.2.1 hr.cons.2.1
    simp only [hdP]
    omega
theorem hdP_zero : ∀ (ps qs : List (Nat × Nat)), ps.length = qs.length → Pairs2 ps → Pairs2 qs → hdP ps qs = 0 → ps = qs
  | [], [], _, _, _, _ => rfl
  | [], _ :: _, h, _, _, _ => by simp at h
  | _ :: _, [], h, _, _, _ => by simp at h
  | (p1, p2) :: ps, (q1, q2) :: qs, h, hp, hq, h0 => by
    simp only [hdP] at h0
    have e1 : p1 = q1 := (xz_iff hp.cons.1 hq.cons.1).1 (by show p1 ^^^ q1 = 0; omega)
    have e2 : p2 = q2 := (xz_iff hp.cons.2.1 hq.cons.2.1).1 (by show p2 ^^^ q2 = 0; omega)
    have e3 := hdP_zero ps qs (by simpa using h) hp.cons.2.2 hq.cons.2.2 (by omega)
    rw [e1, e2, e3]
theorem hdP_self (ps : List (Nat × Nat)) : hdP ps ps = 0 := by
  induction ps with
  | nil => rfl
  | cons p l ih => simp [hdP, ih]

/-- The number that a list of bits spells: the order of lists of equal length. -/
def nval : List Nat → Nat
  | [] => 0
  | x :: xs => x * 2 ^ xs.length + nval xs
theorem nval_lt : ∀ l : List Nat, Bits2 l → nval l < 2 ^ l.length
  | [], _ => by simp [nval]
  | x :: xs, h => by
    have ih := nval_lt xs h.cons.2
    have hx := h.cons.1
    simp only [nval, List.length_cons, Nat.pow_succ]
    obtain rfl | rfl : x = 0 ∨ x = 1 := by omega
    · omega
    · omega
theorem nval_inj : ∀ l m : List Nat, Bits2 l → Bits2 m → l.length = m.length → nval l = nval m → l = m
  | [], [], _, _, _, _ => rfl
  | [], _ :: _, _, _, h, _ => by simp at h
  | _ :: _, [], _, _, h, _ => by simp at h
  | x :: xs, y :: ys, hx, hy, hl, hv => by
    have hl' : xs.length = ys.length := by simpa using hl
    have b1 := nval_lt xs hx.cons.2
    have b2 := nval_lt ys hy.cons.2
    have x2 := hx.cons.1
    have y2 := hy.cons.1
    simp only [nval] at hv
    rw [hl'] at hv b1
    obtain rfl | rfl : x = 0 ∨ x = 1 := by omega
    · obtain rfl | rfl : y = 0 ∨ y = 1 := by omega
      · rw [nval_inj xs ys hx.cons.2 hy.cons.2 hl' (by omega)]
      · omega
    · obtain rfl | rfl : y = 0 ∨ y = 1 := by omega
      · omega
      · rw [nval_inj xs ys hx.cons.2 hy.cons.2 hl' (by omega)]
theorem nval_snoc : ∀ (l : List Nat) (x : Nat), nval (l ++ [x]) = 2 * nval l + x
  | [], x => by simp [nval]
  | y :: ys, x => by
    rw [List.cons_append, nval, nval_snoc ys x, nval, List.length_append, List.length_singleton, Nat.pow_succ]
    have : y * (2 ^ ys.length * 2) = 2 * (y * 2 ^ ys.length) := by rw [← Nat.mul_assoc, Nat.mul_comm]
    omega
/-- The first place in which two lists part decides their order. -/
theorem nval_part : ∀ (l m : List Nat) (k : Nat), Bits2 l → Bits2 m → l.length = m.length → k < l.length → l.take k = m.take k → l.getD k 0 < m.getD k 0 → nval l < nval m
  | [], _, _, _, _, _, h, _, _ => by simp at h
  | _ :: _, [], _, _, _, h, _, _, _ => by simp at h
  | x :: xs, y :: ys, 0, hx, hy, hl, _, _, hlt => by
    have hl' : xs.length = ys.length := by simpa using hl
    have b1 := nval_lt xs hx.cons.2
    have b2 := nval_lt ys hy.cons.2
    have x2 := hx.cons.1
    have y2 := hy.cons.1
    simp at hlt
    simp only [nval]
    rw [hl'] at b1 ⊢
    obtain rfl : x = 0 := by omega
    obtain rfl : y = 1 := by omega
    omega
  | x :: xs, y :: ys, k + 1, hx, hy, hl, hk, ht, hlt => by
    have hl' : xs.length = ys.length := by simpa using hl
    simp only [List.take_succ_cons, List.cons.injEq] at ht
    obtain ⟨rfl, ht⟩ := ht
    have := nval_part xs ys k hx.cons.2 hy.cons.2 hl' (by simpa using hk) ht (by simpa using hlt)
    simp only [nval]
    rw [hl']
    omega

/-- The survivors: the best bits from a state to the end. -/
abbrev Surv := Nat × List Nat
def sExt (d x : Nat) : Option Surv → Option Surv
  | none => none
  | some p => some (p.1 + d, x :: p.2)
def sPick : Option Surv → Option Surv → Option Surv
  | none, o => o
  | some p, none => some p
  | some p, some q => if q.1 < p.1 then some q else some p
def sv : List (Nat × Nat) → Nat → Nat → Option Surv
  | [], a, b => if a = 0 ∧ b = 0 then some (0, []) else none
  | r :: rs, a, b => sPick (sExt (dS a b 0 r) 0 (sv rs 0 a)) (sExt (dS a b 1 r) 1 (sv rs 1 a))
/-- The bits l with the distance c are the best ones from a state to the end. -/
def Best (a b : Nat) (rs : List (Nat × Nat)) (c : Nat) (l : List Nat) : Prop :=
  l.length = rs.length ∧ Bits2 l ∧ sFin a b l = (0, 0) ∧ c = sCost a b l rs ∧
    ∀ ys : List Nat, ys.length = rs.length → Bits2 ys → sFin a b ys = (0, 0) → c < sCost a b ys rs ∨ (c = sCost a b ys rs ∧ nval l ≤ nval ys)
def NoWay (a b : Nat) (rs : List (Nat × Nat)) : Prop := ∀ ys : List Nat, ys.length = rs.length → Bits2 ys → sFin a b ys ≠ (0, 0)
def BestOr (a b : Nat) (rs : List (Nat × Nat)) : Option Surv → Prop
  | none => NoWay a b rs
  | some p => Best a b rs p.1 p.2
theorem cons_of_len {ys : List Nat} {n : Nat} (h : ys.length = n + 1) : ∃ y l, ys = y :: l ∧ l.length = n := by
  cases ys with
  | nil => simp at h
  | cons y l => exact ⟨y, l, rfl, by simpa using h⟩
theorem sv_best : ∀ (rs : List (Nat × Nat)) (a b : Nat), a < 2 → b < 2 → BestOr a b rs (sv rs a b)
  | [], a, b, ha, hb => by
    by_cases h : a = 0 ∧ b = 0
    · obtain ⟨rfl, rfl⟩ := h
      refine ⟨rfl, Bits2.nil, rfl, rfl, fun ys hl _ _ => .inr ⟨?_, Nat.zero_le _⟩⟩
      rw [List.length_eq_zero_iff.1 hl]; rfl
    · rw [sv, if_neg h]
      intro ys hl _ hf
      rw [List.length_eq_zero_iff.1 hl] at hf
      simp only [sFin, Prod.mk.injEq] at hf
      exact h hf
  | r :: rs, a, b, ha, hb => by
    have h0 := sv_best rs 0 a (by omega) ha
    have h1 := sv_best rs 1 a (by omega) ha
    rw [sv]
    cases e0 : sv rs 0 a with
    | none =>
      rw [e0] at h0
      cases e1 : sv rs 1 a with
      | none =>
        rw [e1] at h1
        intro ys hl hy hf
        obtain ⟨y, l, rfl, hl'⟩ := cons_of_len hl
        have y2 := hy.cons.1
        obtain rfl | rfl : y = 0 ∨ y = 1 := by omega
        · exact h0 l hl' hy.cons.2 hf
        · exact h1 l hl' hy.cons.2 hf
      | some q =>
        rw [e1] at h1
        obtain ⟨q1, q2, q3, q4, q5⟩ := h1
        refine ⟨by simp [q1], Bits2.mk (by omega) q2, q3, by show q.1 + _ = _; rw [sCost_cons, q4]; omega, fun ys hl hy hf => ?_⟩
        obtain ⟨y, l, rfl, hl'⟩ := cons_of_len hl
        have y2 := hy.cons.1
        rw [sCost_cons]
        obtain rfl | rfl : y = 0 ∨ y = 1 := by omega
        · exact absurd hf (h0 l hl' hy.cons.2)
        · have := q5 l hl' hy.cons.2 hf
          simp only [nval]
          rw [q1, hl']
          omega
    | some p =>
      rw [e0] at h0
      obtain ⟨p1, p2, p3, p4, p5⟩ := h0
      cases e1 : sv rs 1 a with
      | none =>
        rw [e1] at h1
        refine ⟨by simp [p1], Bits2.mk (by omega) p2, p3, by show p.1 + _ = _; rw [sCost_cons, p4]; omega, fun ys hl hy hf => ?_⟩
        obtain ⟨y, l, rfl, hl'⟩ := cons_of_len hl
        have y2 := hy.cons.1
        rw [sCost_cons]
        obtain rfl | rfl : y = 0 ∨ y = 1 := by omega
        · have := p5 l hl' hy.cons.2 hf
          simp only [nval]
          rw [p1, hl']
          omega
        · exact absurd hf (h1 l hl' hy.cons.2)
      | some q =>
        rw [e1] at h1
        obtain ⟨q1, q2, q3, q4, q5⟩ := h1
        have bp := nval_lt _ p2
        simp only [sExt, sPick]
        by_cases hlt : q.1 + dS a b 1 r < p.1 + dS a b 0 r
        · rw [if_pos hlt]
          refine ⟨by simp [q1], Bits2.mk (by omega) q2, q3, by rw [sCost_cons, q4]; omega, fun ys hl hy hf => ?_⟩
          obtain ⟨y, l, rfl, hl'⟩ := cons_of_len hl
          have y2 := hy.cons.1
          rw [sCost_cons]
          obtain rfl | rfl : y = 0 ∨ y = 1 := by omega
          · have := p5 l hl' hy.cons.2 hf
            omega
          · have := q5 l hl' hy.cons.2 hf
            simp only [nval]
            rw [q1, hl']
            omega
        · rw [if_neg hlt]
          refine ⟨by simp [p1], Bits2.mk (by omega) p2, p3, by rw [sCost_cons, p4]; omega, fun ys hl hy hf => ?_⟩
          obtain ⟨y, l, rfl, hl'⟩ := cons_of_len hl
          have y2 := hy.cons.1
          rw [sCost_cons]
          obtain rfl | rfl : y = 0 ∨ y = 1 := by omega
          · have := p5 l hl' hy.cons.2 hf
            simp only [nval]
            rw [p1, hl']
            omega
          · have := q5 l hl' hy.cons.2 hf
            simp only [nval]
            rw [p1] at bp ⊢
            rw [hl']
            omega
theorem sFin_zeros : ∀ n, sFin 0 0 (List.replicate n 0) = (0, 0)
  | 0 => rfl
  | n + 1 => sFin_zeros n
theorem bits_zeros (n : Nat) : Bits2 (List.replicate n 0) := fun x h => by rw [(List.mem_replicate.1 h).2]; omega
theorem sv_some (rs : List (Nat × Nat)) : ∃ p, sv rs 0 0 = some p := by
  have h := sv_best rs 0 0 (by omega) (by omega)
  cases e : sv rs 0 0 with
  | some p => exact ⟨p, rfl⟩
  | none =>
    rw [e] at h
    exact absurd (sFin_zeros rs.length) (h _ (by simp) (bits_zeros _))
theorem best_uniq {a b : Nat} {rs : List (Nat × Nat)} {c c' : Nat} {l l' : List Nat} (h : Best a b rs c l) (h' : Best a b rs c' l') : c = c' ∧ l = l' := by
  obtain ⟨h1, h2, h3, h4, h5⟩ := h
  obtain ⟨g1, g2, g3, g4, g5⟩ := h'
  have k1 := h5 l' g1 g2 g3
  have k2 := g5 l h1 h2 h3
  have hc : c = c' := by omega
  exact ⟨hc, nval_inj l l' h2 g2 (by omega) (by omega)⟩
/-- The distance and the bits that the decoder finds (with the two zeros behind them). -/
def errS (rs : List (Nat × Nat)) : Nat := match sv rs 0 0 with | some p => p.1 | none => 0
def allS (rs : List (Nat × Nat)) : List Nat := match sv rs 0 0 with | some p => p.2 | none => []
theorem sv_eq (rs : List (Nat × Nat)) : sv rs 0 0 = some (errS rs, allS rs) := by
  obtain ⟨p, h⟩ := sv_some rs
  simp only [errS, allS, h]
theorem best_all (rs : List (Nat × Nat)) : Best 0 0 rs (errS rs) (allS rs) := by
  have h := sv_best rs 0 0 (by omega) (by omega)
  rw [sv_eq] at h
  exact h
/-- What ends in the state 0 ends with two zeros. -/
theorem tail_zero {l : List Nat} {n : Nat} (hl : l.length = n + 2) (hf : sFin 0 0 l = (0, 0)) : l = l.take n ++ [0, 0] := by
  have h : ∃ x y, l.drop n = [x, y] := by
    have : (l.drop n).length = 2 := by simp; omega
    match l.drop n, this with
    | [x, y], _ => exact ⟨x, y, rfl⟩
  obtain ⟨x, y, h⟩ := h
  have he : l = l.take n ++ [x, y] := by rw [← h, List.take_append_drop]
  rw [he, sFin_app] at hf
  simp only [sFin, Prod.mk.injEq] at hf
  rw [hf.1, hf.2] at he
  exact he
theorem sFin_tail (a b : Nat) (l : List Nat) : sFin a b (l ++ [0, 0]) = (0, 0) := by rw [sFin_app]; rfl

/-- Two different streams have codes with five differences or more. -/
def pot (a b : Nat) : Nat := if a = 0 then (if b = 0 then 0 else 2) else 3
theorem sFar_step {a b x a' b' y : Nat} (ha : a < 2) (hb : b < 2) (hx : x < 2) (ha' : a' < 2) (hb' : b' < 2) (hy : y < 2) :
    pot (a ^^^ a') (b ^^^ b') ≤ (op1 a b x ^^^ op1 a' b' y) + (op2 b x ^^^ op2 b' y) + pot (x ^^^ y) (a ^^^ a') ∧
    (a = a' → b = b' → x ≠ y → 5 ≤ (op1 a b x ^^^ op1 a' b' y) + (op2 b x ^^^ op2 b' y) + pot (x ^^^ y) (a ^^^ a')) := by
  have h2 : ∀ n, n < 2 → n = 0 ∨ n = 1 := fun n h => by omega
  rcases h2 a ha with rfl | rfl <;> rcases h2 b hb with rfl | rfl <;> rcases h2 x hx with rfl | rfl <;> rcases h2 a' ha' with rfl | rfl <;> rcases h2 b' hb' with rfl | rfl <;> rcases h2 y hy with rfl | rfl <;> decide
theorem sFar : ∀ (xs ys : List Nat) (a b a' b' : Nat), xs.length = ys.length → Bits2 xs → Bits2 ys → a < 2 → b < 2 → a' < 2 → b' < 2 → sFin a b xs = (0, 0) → sFin a' b' ys = (0, 0) →
    pot (a ^^^ a') (b ^^^ b') ≤ hdP (sEnc a b xs) (sEnc a' b' ys) ∧ (a = a' → b = b' → xs ≠ ys → 5 ≤ hdP (sEnc a b xs) (sEnc a' b' ys))
  | [], [], a, b, a', b', _, _, _, _, _, _, _, h, h' => by
    simp only [sFin, Prod.mk.injEq] at h h'
    rw [h.1, h.2, h'.1, h'.2]
    exact ⟨by simp [pot], fun _ _ h => absurd rfl h⟩
  | [], _ :: _, _, _, _, _, h, _, _, _, _, _, _, _, _ => by simp at h
  | _ :: _, [], _, _, _, _, h, _, _, _, _, _, _, _, _ => by simp at h
  | x :: xs, y :: ys, a, b, a', b', hl, hx, hy, ha, hb, ha', hb', hf, hf' => by
    have ih := sFar xs ys x a y a' (by simpa using hl) hx.cons.2 hy.cons.2 hx.cons.1 ha hy.cons.1 ha' hf hf'
    have st := sFar_step ha hb hx.cons.1 ha' hb' hy.cons.1
    simp only [sEnc, hdP]
    refine ⟨by omega, fun e1 e2 hne => ?_⟩
    by_cases hxy : x = y
    · have := ih.2 hxy e1 (fun h => hne (by rw [hxy, h]))
      omega
    · have := st.2 e1 e2 hxy
      omega
/-- A list with at most two differences from a code is decoded to its bits. -/
theorem near_dec {xs : List Nat} {rs : List (Nat × Nat)} (hx : Bits2 xs) (hf : sFin 0 0 xs = (0, 0)) (hl : xs.length = rs.length) (hr : Pairs2 rs) (hn : sCost 0 0 xs rs ≤ 2) : allS rs = xs := by
  obtain ⟨h1, h2, h3, h4, h5⟩ := best_all rs
  by_cases he : allS rs = xs
  · exact he
  · have k := h5 xs hl hx hf
    have d := (sFar (allS rs) xs 0 0 0 0 (by omega) h2 hx (by omega) (by omega) (by omega) (by omega) h3 hf).2 rfl rfl he
    have t := hdP_tri (sEnc 0 0 (allS rs)) rs (sEnc 0 0 xs) (by rw [sEnc_length, h1]) (by rw [sEnc_length, hl]) (sEnc_pairs _ _ _ (by omega) (by omega) h2) hr (sEnc_pairs _ _ _ (by omega) (by omega) hx)
    rw [hdP_comm rs] at t
    unfold sCost at *
    omega

/-- The paths from the beginning: the best bits of length k that lead to a state, with zeros from place n on. -/
def bet (p q : Surv) : Bool := decide (p.1 < q.1) || (decide (p.1 = q.1) && decide (nval p.2 < nval q.2))
theorem bet_iff {p q : Surv} : bet p q = true ↔ p.1 < q.1 ∨ (p.1 = q.1 ∧ nval p.2 < nval q.2) := by simp [bet]
def sComb : Option Surv → Option Surv → Option Surv
  | none, o => o
  | some q, none => some q
  | some q, some p => if bet p q then some p else some q
def sSnoc (d x : Nat) : Option Surv → Option Surv
  | none => none
  | some p => some (p.1 + d, p.2 ++ [x])
/-- What state s (the nearer bit is s % 2, the other one s / 2) and the bit x offer at place k. -/
def cand (n k : Nat) (r : Nat × Nat) (now : Nat → Option Surv) (s x : Nat) : Option Surv := if n ≤ k ∧ x = 1 then none else sSnoc (dS (s % 2) (s / 2) x r) x (now s)
def stepC (n k : Nat) (r : Nat × Nat) (now : Nat → Option Surv) (s x : Nat) (f : Nat → Option Surv) : Nat → Option Surv := fun t => if t = s % 2 * 2 + x then sComb (f t) (cand n k r now s x) else f t
def newF (n k : Nat) (r : Nat × Nat) (now : Nat → Option Surv) : Nat → Nat → Option Surv
  | 0 => fun _ => none
  | s + 1 => stepC n k r now s 1 (stepC n k r now s 0 (newF n k r now s))
def fw (n : Nat) (rs : List (Nat × Nat)) : Nat → Nat → Option Surv
  | 0 => fun s => if s = 0 then some (0, []) else none
  | k + 1 => newF n k (rs.getD k (0, 0)) (fw n rs k) 4
theorem comb_none_l (o : Option Surv) : sComb none o = o := rfl
theorem comb_none_r (o : Option Surv) : sComb o none = o := by cases o <;> rfl
theorem newF_four (n k : Nat) (r : Nat × Nat) (now : Nat → Option Surv) {a x : Nat} (ha : a < 2) (hx : x < 2) : newF n k r now 4 (a * 2 + x) = sComb (cand n k r now a x) (cand n k r now (a + 2) x) := by
  obtain rfl | rfl : a = 0 ∨ a = 1 := by omega
  · obtain rfl | rfl : x = 0 ∨ x = 1 := by omega
    · simp [newF, stepC, comb_none_l]
    · simp [newF, stepC, comb_none_l]
  · obtain rfl | rfl : x = 0 ∨ x = 1 := by omega
    · simp [newF, stepC, comb_none_l]
    · simp [newF, stepC, comb_none_l]
/-- A path of length k to the state (a, b). -/
def Way (n k a b : Nat) (l : List Nat) : Prop := l.length = k ∧ Bits2 l ∧ sFin 0 0 l = (a, b) ∧ ∀ i, n ≤ i → l.getD i 0 = 0
def WayBest (n : Nat) (rs : List (Nat × Nat)) (k a b : Nat) : Option Surv → Prop
  | none => ∀ l, ¬ Way n k a b l
  | some p => Way n k a b p.2 ∧ p.1 = sCost 0 0 p.2 (rs.take k) ∧ ∀ l, Way n k a b l → p.1 < sCost 0 0 l (rs.take k) ∨ (p.1 = sCost 0 0 l (rs.take k) ∧ nval p.2 ≤ nval l)
theorem way_snoc {n k a b x : Nat} {l : List Nat} (h : Way n k a b l) (hx : x < 2) (hok : ¬ (n ≤ k ∧ x = 1)) : Way n (k + 1) x a (l ++ [x]) := by
  obtain ⟨h1, h2, h3, h4⟩ := h
  refine ⟨by simp [h1], h2.app (Bits2.mk hx Bits2.nil), by rw [sFin_snoc, h3], fun i hi => ?_⟩
  rcases Nat.lt_trichotomy i k with hik | hik | hik
  · have := h4 i hi
    simp only [List.getD_eq_getElem?_getD] at this ⊢
    rw [List.getElem?_append_left (by omega)]
    exact this
  · subst hik
    simp only [List.getD_eq_getElem?_getD]
    rw [List.getElem?_append_right (by omega), h1, Nat.sub_self]
    simp
    omega
  · simp only [List.getD_eq_getElem?_getD]
    rw [List.getElem?_eq_none (by simp; omega)]
    rfl
theorem way_split {n k a x : Nat} {l : List Nat} (h : Way n (k + 1) x a l) : ∃ m b, l = m ++ [x] ∧ b < 2 ∧ Way n k a b m ∧ ¬ (n ≤ k ∧ x = 1) := by
  obtain ⟨h1, h2, h3, h4⟩ := h
  have hne : l ≠ [] := fun e => by rw [e] at h1; simp at h1
  obtain ⟨m, y, rfl⟩ : ∃ m y, l = m ++ [y] := ⟨l.dropLast, l.getLast hne, (List.dropLast_concat_getLast hne).symm⟩
  have hm : m.length = k := by simpa using h1
  rw [sFin_snoc, Prod.mk.injEq] at h3
  obtain ⟨rfl, h3⟩ := h3
  have b2 := sFin_lt m 0 0 (by omega) (by omega) h2.left
  refine ⟨m, (sFin 0 0 m).2, rfl, b2.2, ⟨hm, h2.left, by rw [← h3], fun i hi => ?_⟩, fun hc => ?_⟩
  · by_cases hik : i < k
    · have := h4 i hi
      simp only [List.getD_eq_getElem?_getD] at this ⊢
      rw [List.getElem?_append_left (by omega)] at this
      exact this
    · simp only [List.getD_eq_getElem?_getD]
      rw [List.getElem?_eq_none (by omega)]
      rfl
  · have := h4 k hc.1
    simp only [List.getD_eq_getElem?_getD] at this
    rw [List.getElem?_append_right (by omega), hm, Nat.sub_self] at this
    simp at this
    omega
theorem way_cost {n k a b x : Nat} {l : List Nat} {rs : List (Nat × Nat)} (h : Way n k a b l) (hk : k < rs.length) : sCost 0 0 (l ++ [x]) (rs.take (k + 1)) = sCost 0 0 l (rs.take k) + dS a b x (rs.getD k (0, 0)) := by
  have e : rs.take (k + 1) = rs.take k ++ [rs.getD k (0, 0)] := by
    rw [List.take_succ_eq_append_getElem hk]
    simp [hk]
  rw [e, sCost_snoc _ _ _ _ _ _ (by rw [h.1, List.length_take]; omega), h.2.2.1]
theorem cand_way {n k a b x : Nat} {rs : List (Nat × Nat)} {now : Nat → Option Surv} (hk : k < rs.length) (ha : a < 2) (hx : x < 2) (h : WayBest n rs k a b (now (a + 2 * b))) :
    match cand n k (rs.getD k (0, 0)) now (a + 2 * b) x with
    | none => ∀ m, Way n k a b m → (n ≤ k ∧ x = 1)
    | some p => ¬ (n ≤ k ∧ x = 1) ∧ Way n (k + 1) x a p.2 ∧ p.1 = sCost 0 0 p.2 (rs.take (k + 1)) ∧ ∀ m, Way n k a b m → p.1 < sCost 0 0 (m ++ [x]) (rs.take (k + 1)) ∨ (p.1 = sCost 0 0 (m ++ [x]) (rs.take (k + 1)) ∧ nval p.2 ≤ nval (m ++ [x])) := by
  by_cases hok : n ≤ k ∧ x = 1
  · simp only [cand, if_pos hok]
    exact fun _ _ => hok
  · simp only [cand, if_neg hok]
    rw [show (a + 2 * b) % 2 = a by omega, show (a + 2 * b) / 2 = b by omega]
    cases e : now (a + 2 * b) with
    | none =>
      rw [e] at h
      exact fun m hm => absurd hm (h m)
    | some p =>
      rw [e] at h
      obtain ⟨h1, h2, h3⟩ := h
      refine ⟨hok, way_snoc h1 hx hok, by rw [way_cost h1 hk, ← h2], fun m hm => ?_⟩
      have := h3 m hm
      rw [way_cost hm hk]
      simp only [nval_snoc]
      omega
theorem fw_best (n : Nat) (rs : List (Nat × Nat)) : ∀ k, k ≤ rs.length → ∀ a b, a < 2 → b < 2 → WayBest n rs k a b (fw n rs k (a + 2 * b))
  | 0, _, a, b, ha, hb => by
    by_cases h : a + 2 * b = 0
    · obtain rfl : a = 0 := by omega
      obtain rfl : b = 0 := by omega
      exact ⟨⟨rfl, Bits2.nil, rfl, fun i _ => rfl⟩, rfl, fun l hl => .inr ⟨by rw [List.length_eq_zero_iff.1 hl.1]; rfl, Nat.zero_le _⟩⟩
    · rw [fw]
      simp only [h, if_false]
      intro l hl
      have h3 := hl.2.2.1
      rw [List.length_eq_zero_iff.1 hl.1] at h3
      simp only [sFin, Prod.mk.injEq] at h3
      omega
  | k + 1, hk, x, a, hx, ha => by
    have h0 := cand_way (x := x) (by omega : k < rs.length) ha hx (fw_best n rs k (by omega) a 0 ha (by omega))
    have h1 := cand_way (x := x) (by omega : k < rs.length) ha hx (fw_best n rs k (by omega) a 1 ha (by omega))
    rw [fw, show x + 2 * a = a * 2 + x by omega, newF_four _ _ _ _ ha hx]
    rw [show a + 2 * 0 = a by omega] at h0
    rw [show a + 2 * 1 = a + 2 by omega] at h1
    cases e0 : cand n k (rs.getD k (0, 0)) (fw n rs k) a x with
    | none =>
      rw [e0] at h0
      cases e1 : cand n k (rs.getD k (0, 0)) (fw n rs k) (a + 2) x with
      | none =>
        rw [e1] at h1
        intro l hl
        obtain ⟨m, b, rfl, hb, hm, hok⟩ := way_split hl
        obtain rfl | rfl : b = 0 ∨ b = 1 := by omega
        · exact hok (h0 m hm)
        · exact hok (h1 m hm)
      | some q =>
        rw [e1] at h1
        obtain ⟨q0, q1, q2, q3⟩ := h1
        refine ⟨q1, q2, fun l hl => ?_⟩
        obtain ⟨m, b, rfl, hb, hm, hok⟩ := way_split hl
        obtain rfl | rfl : b = 0 ∨ b = 1 := by omega
        · exact absurd (h0 m hm) hok
        · exact q3 m hm
    | some p =>
      rw [e0] at h0
      obtain ⟨p0, p1, p2, p3⟩ := h0
      cases e1 : cand n k (rs.getD k (0, 0)) (fw n rs k) (a + 2) x with
      | none =>
        rw [e1] at h1
        refine ⟨p1, p2, fun l hl => ?_⟩
        obtain ⟨m, b, rfl, hb, hm, hok⟩ := way_split hl
        obtain rfl | rfl : b = 0 ∨ b = 1 := by omega
        · exact p3 m hm
        · exact absurd (h1 m hm) hok
      | some q =>
        rw [e1] at h1
        obtain ⟨q0, q1, q2, q3⟩ := h1
        simp only [sComb]
        cases hb : bet q p with
        | true =>
          have hb' := bet_iff.1 hb
          refine ⟨q1, q2, fun l hl => ?_⟩
          obtain ⟨m, b, rfl, hb, hm, hok⟩ := way_split hl
          obtain rfl | rfl : b = 0 ∨ b = 1 := by omega
          · have := p3 m hm
            show q.1 < _ ∨ (q.1 = _ ∧ nval q.2 ≤ _)
            omega
          · exact q3 m hm
        | false =>
          have hb' : ¬ (q.1 < p.1 ∨ (q.1 = p.1 ∧ nval q.2 < nval p.2)) := fun h => by rw [bet_iff.2 h] at hb; cases hb
          refine ⟨p1, p2, fun l hl => ?_⟩
          obtain ⟨m, b, rfl, hb, hm, hok⟩ := way_split hl
          obtain rfl | rfl : b = 0 ∨ b = 1 := by omega
          · exact p3 m hm
          · have := q3 m hm
            show p.1 < _ ∨ (p.1 = _ ∧ nval p.2 ≤ _)
            omega
/-- Both ways find the same. -/
theorem fw_sv (rs : List (Nat × Nat)) (n : Nat) (hn : rs.length = n + 2) : fw n rs (n + 2) 0 = some (errS rs, allS rs) := by
  have h := fw_best n rs (n + 2) (by omega) 0 0 (by omega) (by omega)
  have hb := best_all rs
  have way_of : ∀ ys : List Nat, ys.length = rs.length → Bits2 ys → sFin 0 0 ys = (0, 0) → Way n (n + 2) 0 0 ys := fun ys hl hy hf => by
    refine ⟨by omega, hy, hf, fun i hi => ?_⟩
    rw [tail_zero (by omega : ys.length = n + 2) hf]
    simp only [List.getD_eq_getElem?_getD]
    rw [List.getElem?_append_right (by simp; omega)]
    have hlt : (ys.take n).length = n := by simp; omega
    rw [hlt]
    match i - n with
    | 0 | 1 | _ + 2 => rfl
  rw [show 0 + 2 * 0 = 0 from rfl] at h
  cases e : fw n rs (n + 2) 0 with
  | none =>
    rw [e] at h
    exact absurd (way_of _ hb.1 hb.2.1 hb.2.2.1) (h _)
  | some p =>
    rw [e] at h
    obtain ⟨⟨h1, h2, h3, _⟩, h4, h5⟩ := h
    have ht : rs.take (n + 2) = rs := List.take_of_length_le (by omega)
    rw [ht] at h4 h5
    have hp : Best 0 0 rs p.1 p.2 := ⟨by omega, h2, h3, h4, fun ys hl hy hf => h5 ys (way_of ys hl hy hf)⟩
    obtain ⟨e1, e2⟩ := best_uniq hp hb
    rw [← e1, ← e2]
end Go.Proofs.YtnjjblcigcblhaaDoor
