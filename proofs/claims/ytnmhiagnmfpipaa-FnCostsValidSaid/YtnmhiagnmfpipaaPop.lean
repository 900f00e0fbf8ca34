/-
  Counting the ones of a word of 64 bits by adding neighbouring fields: plain mathematics, no program. No condition but that the word is below 2^64.
-/
import Derived.Test.YtnmhiagnmfpipaaBase
namespace Go.Proofs.Ytnmhiagnmfpipaa

/-- How many of F 0, .., F (n - 1) are true. -/
def cnt (F : Nat → Bool) : Nat → Nat
  | 0 => 0
  | n + 1 => cnt F n + (F n).toNat
theorem cnt_le (F : Nat → Bool) (n : Nat) : cnt F n ≤ n := by
  induction n with
  | zero => simp [cnt]
  | succ n ih => simp only [cnt]; have := Bool.toNat_le (F n); omega
theorem cnt_congr {F G : Nat → Bool} {n : Nat} (h : ∀ i, i < n → F i = G i) : cnt F n = cnt G n := by
  induction n with
  | zero => rfl
  | succ n ih => simp only [cnt]; rw [ih (fun i hi => h i (by omega)), h n (by omega)]
theorem cnt_add (F : Nat → Bool) (a b : Nat) : cnt F (a + b) = cnt F a + cnt (fun j => F (a + j)) b := by
  induction b with
  | zero => simp [cnt]
  | succ b ih => rw [← Nat.add_assoc]; simp only [cnt]; rw [ih]; omega
theorem cnt_head (F : Nat → Bool) (n : Nat) : cnt F (n + 1) = (F 0).toNat + cnt (fun j => F (j + 1)) n := by
  rw [Nat.add_comm n 1, cnt_add]
  simp only [cnt, Nat.zero_add]
  rw [cnt_congr (F := fun j => F (1 + j)) (G := fun j => F (j + 1)) (fun i _ => by rw [Nat.add_comm])]
theorem cnt_rev (F : Nat → Bool) (n : Nat) : cnt (fun i => F (n - 1 - i)) n = cnt F n := by
  induction n with
  | zero => rfl
  | succ n ih =>
    rw [cnt_head]
    simp only [cnt]
    rw [← ih]
    have h0 : n + 1 - 1 - 0 = n := by omega
    rw [h0, Nat.add_comm]
    congr 1
    exact cnt_congr fun i hi => by congr 1; omega
theorem cnt_false {F : Nat → Bool} {n : Nat} (h : ∀ i, i < n → F i = false) : cnt F n = 0 := by
  induction n with
  | zero => rfl
  | succ n ih => simp only [cnt]; rw [ih (fun i hi => h i (by omega)), h n (by omega)]; rfl

/-- The number with the fields cs, each k digits wide, the lowest first. -/
def val (k : Nat) : List Nat → Nat
  | [] => 0
  | c :: r => c + 2 ^ k * val k r
def bl : Nat → Nat → List Nat
  | 0, _ => []
  | n + 1, x => x % 2 :: bl n (x / 2)
def pairs : List Nat → List Nat
  | a :: b :: r => (a + b) :: pairs r
  | _ => []
def evens : List Nat → List Nat
  | a :: _ :: r => a :: evens r
  | _ => []
/-- n times the field 2^k - 1, every other field 0. -/
def mask (k : Nat) : Nat → Nat
  | 0 => 0
  | n + 1 => (2 ^ k - 1) + 2 ^ (2 * k) * mask k n

theorem val_bl (n x : Nat) : val 1 (bl n x) = x % 2 ^ n := by
  induction n generalizing x with
  | zero => simp [bl, val, Nat.mod_one]
  | succ n ih =>
    simp only [bl, val, ih, Nat.pow_one]
    rw [Nat.pow_succ, Nat.mul_comm (2 ^ n) 2, Nat.mod_mul]
theorem bl_length (n x : Nat) : (bl n x).length = n := by
  induction n generalizing x with
  | zero => rfl
  | succ n ih => simp [bl, ih]
theorem bl_le (n x : Nat) : ∀ c ∈ bl n x, c ≤ 1 := by
  induction n generalizing x with
  | zero => simp [bl]
  | succ n ih =>
    intro c hc
    simp only [bl, List.mem_cons] at hc
    rcases hc with rfl | hc
    · omega
    · exact ih _ c hc
theorem bl_sum (n x : Nat) : (bl n x).sum = cnt x.testBit n := by
  induction n generalizing x with
  | zero => rfl
  | succ n ih =>
    rw [cnt_head]
    simp only [bl, List.sum_cons, ih]
    congr 1
    · rw [Nat.testBit_zero]
      rcases Nat.mod_two_eq_zero_or_one x with h | h <;> simp [h]
    · exact cnt_congr fun i _ => by rw [Nat.testBit_succ]

theorem split_and (n a b c d : Nat) (ha : a < 2 ^ n) (hc : c < 2 ^ n) : (a + 2 ^ n * b) &&& (c + 2 ^ n * d) = (a &&& c) + 2 ^ n * (b &&& d) := by
  apply Nat.eq_of_testBit_eq
  intro i
  have hac : a &&& c < 2 ^ n := Nat.lt_of_le_of_lt Nat.and_le_left ha
  rw [Nat.testBit_and, Nat.add_comm a, Nat.add_comm c, Nat.add_comm (a &&& c), Nat.testBit_two_pow_mul_add _ ha, Nat.testBit_two_pow_mul_add _ hc, Nat.testBit_two_pow_mul_add _ hac]
  by_cases h : i < n
  · simp [h]
  · simp [h]
theorem and_mask (k : Nat) (cs : List Nat) (n : Nat) (hn : cs.length = 2 * n) (hc : ∀ c ∈ cs, c < 2 ^ k) : val k cs &&& mask k n = val (2 * k) (evens cs) := by
  induction n generalizing cs with
  | zero =>
    have : cs = [] := List.eq_nil_of_length_eq_zero (by omega)
    subst this
    simp [val, evens]
  | succ n ih =>
    match cs, hn with
    | a :: b :: r, hn =>
      have ha : a < 2 ^ k := hc a (by simp)
      have hb : b < 2 ^ k := hc b (by simp)
      simp only [val, mask, evens]
      have hp : 2 ^ (2 * k) = 2 ^ k * 2 ^ k := by rw [Nat.two_mul, Nat.pow_add]
      have h1 : a + 2 ^ k * (b + 2 ^ k * val k r) = (a + 2 ^ k * b) + 2 ^ (2 * k) * val k r := by
        rw [hp, Nat.mul_add, Nat.mul_assoc, Nat.add_assoc]
      have hlt : a + 2 ^ k * b < 2 ^ (2 * k) := by
        rw [hp]
        calc a + 2 ^ k * b < 2 ^ k + 2 ^ k * b := by omega
          _ = 2 ^ k * (b + 1) := by rw [Nat.mul_add, Nat.mul_one, Nat.add_comm]
          _ ≤ 2 ^ k * 2 ^ k := Nat.mul_le_mul_left _ hb
      have hm : 2 ^ k - 1 < 2 ^ (2 * k) := by
        have : 2 ^ k ≤ 2 ^ (2 * k) := Nat.pow_le_pow_right (by omega) (by omega)
        have : 0 < 2 ^ k := Nat.two_pow_pos k
        omega
      rw [h1, split_and _ _ _ _ _ hlt hm, Nat.and_two_pow_sub_one_eq_mod, Nat.add_mul_mod_self_left, Nat.mod_eq_of_lt ha, ih r (by simp at hn; omega) (fun c h => hc c (by simp [h]))]
    | [a], hn => simp at hn; omega
    | [], hn => simp at hn
theorem val_div (k : Nat) (c : Nat) (r : List Nat) (hc : c < 2 ^ k) : val k (c :: r) / 2 ^ k = val k r := by
  simp only [val]
  rw [Nat.add_mul_div_left _ _ (Nat.two_pow_pos k), Nat.div_eq_of_lt hc, Nat.zero_add]
theorem evens_tail (cs : List Nat) (n : Nat) (hn : cs.length = 2 * n) (k : Nat) : val k (evens cs) + val k (evens (cs.tail ++ [0])) = val k (pairs cs) := by
  induction n generalizing cs with
  | zero =>
    have : cs = [] := List.eq_nil_of_length_eq_zero (by omega)
    subst this
    simp [val, evens, pairs]
  | succ n ih =>
    match cs, hn with
    | [a, b], hn => simp [evens, pairs, val]
    | a :: b :: c :: r, hn =>
      have := ih (c :: r) (by simp at hn ⊢; omega)
      simp only [List.tail_cons, List.cons_append] at this ⊢
      simp only [evens, pairs, val] at this ⊢
      rw [← this, Nat.mul_add]
      omega
    | [a], hn => simp at hn; omega
    | [], hn => simp at hn
theorem val_snoc (k : Nat) (cs : List Nat) : val k (cs ++ [0]) = val k cs := by
  induction cs with
  | nil => simp [val]
  | cons c r ih => simp [val, ih]
/-- One step: fields of k digits become sums of neighbours in fields of 2 k digits. -/
theorem step_pairs (k : Nat) (cs : List Nat) (n : Nat) (hn : cs.length = 2 * n) (h0 : 0 < n) (hc : ∀ c ∈ cs, c < 2 ^ k) :
    (val k cs / 2 ^ k &&& mask k n) + (val k cs &&& mask k n) = val (2 * k) (pairs cs) := by
  match cs, hn with
  | a :: r, hn =>
    rw [val_div k a r (hc a (by simp)), ← val_snoc k r, and_mask k (r ++ [0]) n (by simp at hn ⊢; omega) (by
      intro c h
      simp only [List.mem_append, List.mem_singleton] at h
      rcases h with h | rfl
      · exact hc c (by simp [h])
      · exact Nat.two_pow_pos k), and_mask k (a :: r) n hn hc, Nat.add_comm]
    have := evens_tail (a :: r) n hn (2 * k)
    simpa using this
  | [], hn => simp at hn; omega
theorem pairs_length (cs : List Nat) (n : Nat) (hn : cs.length = 2 * n) : (pairs cs).length = n := by
  induction n generalizing cs with
  | zero =>
    have : cs = [] := List.eq_nil_of_length_eq_zero (by omega)
    subst this; rfl
  | succ n ih =>
    match cs, hn with
    | a :: b :: r, hn => simp only [pairs, List.length_cons]; rw [ih r (by simp at hn; omega)]
    | [a], hn => simp at hn; omega
    | [], hn => simp at hn
theorem pairs_sum (cs : List Nat) (n : Nat) (hn : cs.length = 2 * n) : (pairs cs).sum = cs.sum := by
  induction n generalizing cs with
  | zero =>
    have : cs = [] := List.eq_nil_of_length_eq_zero (by omega)
    subst this; rfl
  | succ n ih =>
    match cs, hn with
    | a :: b :: r, hn => simp only [pairs, List.sum_cons]; rw [ih r (by simp at hn; omega)]; omega
    | [a], hn => simp at hn; omega
    | [], hn => simp at hn
theorem pairs_le (m : Nat) : ∀ (cs : List Nat), (∀ c ∈ cs, c ≤ m) → ∀ c ∈ pairs cs, c ≤ 2 * m
  | a :: b :: r, h => by
    intro c hc
    simp only [pairs, List.mem_cons] at hc
    rcases hc with rfl | hc
    · have := h a (by simp); have := h b (by simp); omega
    · exact pairs_le m r (fun c h' => h c (by simp [h'])) c hc
  | [a], _ => by simp [pairs]
  | [], _ => by simp [pairs]
/-- The third step adds first and masks behind it. -/
theorem step_late (cs : List Nat) (n : Nat) (hn : cs.length = 2 * n) (h0 : 0 < n) (hc : ∀ c ∈ cs, c ≤ 4) :
    (val 4 cs / 2 ^ 4 + val 4 cs) &&& mask 4 n = val 8 (pairs cs) := by
  have hsum : ∀ (r : List Nat) (a : Nat), val 4 r + val 4 (a :: r) = val 4 (a :: r |>.zipWith (· + ·) (r ++ [0])) := by
    intro r
    induction r with
    | nil => intro a; simp [val]
    | cons b r ih => intro a; have := ih b; simp only [val, List.cons_append, List.zipWith_cons_cons] at this ⊢; omega
  have hev : ∀ (n : Nat) (r : List Nat) (a : Nat), (a :: r).length = 2 * n → evens ((a :: r).zipWith (· + ·) (r ++ [0])) = pairs (a :: r) := by
    intro n
    induction n with
    | zero => intro r a h; simp at h
    | succ n ih =>
      intro r a h
      match r, h with
      | [b], h => simp [evens, pairs]
      | b :: c :: r, h =>
        have := ih r c (by simp at h ⊢; omega)
        simp only [List.cons_append, List.zipWith_cons_cons, evens, pairs] at this ⊢
        rw [this]
      | [], h => simp at h; omega
  match cs, hn with
  | a :: r, hn =>
    have ha : a < 2 ^ 4 := by have := hc a (by simp); omega
    rw [val_div 4 a r ha, hsum, and_mask 4 _ n (by simp at hn ⊢; omega) ?_, hev n r a hn]
    intro c h
    obtain ⟨i, hi, rfl⟩ := List.getElem_of_mem h
    rw [List.getElem_zipWith]
    have h1 := hc _ (List.getElem_mem (l := a :: r) (n := i) (by simp at hi ⊢; omega))
    have h2 : (r ++ [0])[i]'(by simp at hi ⊢; omega) ≤ 4 := by
      have hm := List.getElem_mem (l := r ++ [0]) (n := i) (by simp at hi ⊢; omega)
      simp only [List.mem_append, List.mem_singleton] at hm
      rcases hm with hm | hm
      · exact hc _ (by simp [hm])
      · omega
    omega
  | [], hn => simp at hn; omega
theorem val_lt (k : Nat) (cs : List Nat) (hc : ∀ c ∈ cs, c < 2 ^ k) : val k cs < 2 ^ (k * cs.length) := by
  induction cs with
  | nil => simp [val]
  | cons c r ih =>
    have h1 := hc c (by simp)
    have h2 := ih (fun c h => hc c (by simp [h]))
    simp only [val, List.length_cons]
    rw [Nat.mul_add, Nat.mul_one, Nat.pow_add, Nat.mul_comm (2 ^ (k * r.length))]
    have h3 : 2 ^ k * (val k r + 1) ≤ 2 ^ k * 2 ^ (k * r.length) := Nat.mul_le_mul_left _ h2
    rw [Nat.mul_add, Nat.mul_one] at h3
    omega
theorem val4_le (cs : List Nat) (hc : ∀ c ∈ cs, c ≤ 4) : val 4 cs * 15 + 4 ≤ 4 * 16 ^ cs.length := by
  induction cs with
  | nil => simp [val]
  | cons c r ih =>
    have h1 := hc c (by simp)
    have h2 := ih (fun c h => hc c (by simp [h]))
    simp only [val, List.length_cons, Nat.pow_succ]
    omega
set_option maxHeartbeats 1000000 in
theorem last_steps (cs : List Nat) (hn : cs.length = 8) (hc : ∀ c ∈ cs, c ≤ 8) :
    let x3 := val 8 cs
    let x4 := x3 + x3 / 2 ^ 8
    let x5 := x4 + x4 / 2 ^ 16
    let x6 := x5 + x5 / 2 ^ 32
    x4 < 2 ^ 64 ∧ x5 < 2 ^ 64 ∧ x6 < 2 ^ 63 ∧ x6 % 128 = cs.sum := by
  match cs, hn with
  | [a, b, c, d, e, f, g, h], _ =>
    have ha := hc a (by simp); have hb := hc b (by simp); have hcc := hc c (by simp); have hd := hc d (by simp)
    have he := hc e (by simp); have hf := hc f (by simp); have hg := hc g (by simp); have hh := hc h (by simp)
    simp only [val, List.sum_cons, List.sum_nil, Nat.reducePow]
    have e3 : a + 256 * (b + 256 * (c + 256 * (d + 256 * (e + 256 * (f + 256 * (g + 256 * (h + 256 * 0))))))) =
      a + 256 * b + 65536 * c + 16777216 * d + 4294967296 * e + 1099511627776 * f + 281474976710656 * g + 72057594037927936 * h := by omega
    rw [e3]
    have e4 : (a + 256 * b + 65536 * c + 16777216 * d + 4294967296 * e + 1099511627776 * f + 281474976710656 * g + 72057594037927936 * h) / 256 =
      b + 256 * c + 65536 * d + 16777216 * e + 4294967296 * f + 1099511627776 * g + 281474976710656 * h := by omega
    rw [e4]
    generalize hx4 : a + 256 * b + 65536 * c + 16777216 * d + 4294967296 * e + 1099511627776 * f + 281474976710656 * g + 72057594037927936 * h +
      (b + 256 * c + 65536 * d + 16777216 * e + 4294967296 * f + 1099511627776 * g + 281474976710656 * h) = x4
    have e5 : x4 / 65536 = (c + d) + 256 * (d + e) + 65536 * (e + f) + 16777216 * (f + g) + 4294967296 * (g + h) + 1099511627776 * h := by omega
    rw [e5]
    generalize hx5 : x4 + ((c + d) + 256 * (d + e) + 65536 * (e + f) + 16777216 * (f + g) + 4294967296 * (g + h) + 1099511627776 * h) = x5
    have e6 : x5 / 4294967296 = (e + f + g + h) + 256 * (f + g + h) + 65536 * (g + h) + 16777216 * h := by omega
    rw [e6]
    have h5 : x5 = (a + b + c + d) + 256 * (b + c + d + e) + 65536 * (c + d + e + f) + 16777216 * (d + e + f + g) + 4294967296 * (e + f + g + h) + 1099511627776 * (f + g + h) + 281474976710656 * (g + h) + 72057594037927936 * h := by
      clear e3 e4 e5 e6 hc ha hb hcc hd he hf hg hh
      omega
    clear e3 e4 e5 e6 hc
    refine ⟨by clear hx5 h5; omega, by clear hx4 hx5; omega, by clear hx4 hx5; omega, ?_⟩
    have h6 : x5 + ((e + f + g + h) + 256 * (f + g + h) + 65536 * (g + h) + 16777216 * h) = (a + (b + (c + (d + (e + (f + (g + (h + 0)))))))) + 128 * (2 * (b + c + d + e) + 512 * (c + d + e + f) + 131072 * (d + e + f + g) + 33554432 * (e + f + g + h) + 8589934592 * (f + g + h) + 2199023255552 * (g + h) + 562949953421312 * h + 2 * (f + g + h) + 512 * (g + h) + 131072 * h) := by
      clear hx4 hx5 ha hb hcc hd he hf hg hh
      omega
    rw [h6, Nat.add_mul_mod_self_left]
    exact Nat.mod_eq_of_lt (by omega)

theorem mask_1 : mask 1 32 = 6148914691236517205 := by decide +kernel
theorem mask_2 : mask 2 16 = 3689348814741910323 := by decide +kernel
theorem mask_4 : mask 4 8 = 1085102592571150095 := by decide +kernel
/-- The steps of counting, one behind the other, as numbers. -/
theorem pop_steps (x : Nat) (hx : x < 2 ^ 64) : ∃ x1 x2 x3 x4 x5 x6 : Nat,
    (x / 2 &&& 6148914691236517205) + (x &&& 6148914691236517205) = x1 ∧ x1 < 2 ^ 64 ∧
    (x1 / 4 &&& 3689348814741910323) + (x1 &&& 3689348814741910323) = x2 ∧ x2 < 2 ^ 64 ∧ x2 / 16 + x2 < 2 ^ 64 ∧
    ((x2 / 16 + x2) &&& 1085102592571150095) = x3 ∧ x3 + x3 / 256 = x4 ∧ x4 < 2 ^ 64 ∧ x4 + x4 / 65536 = x5 ∧ x5 < 2 ^ 64 ∧ x5 + x5 / 4294967296 = x6 ∧ x6 < 2 ^ 63 ∧
    x6 % 128 = cnt x.testBit 64 := by
  have e0 : val 1 (bl 64 x) = x := by rw [val_bl, Nat.mod_eq_of_lt hx]
  have l0 : (bl 64 x).length = 2 * 32 := bl_length 64 x
  have c0 := bl_le 64 x
  have s1 := step_pairs 1 (bl 64 x) 32 l0 (by omega) (fun c h => by have := c0 c h; omega)
  have l1 : (pairs (bl 64 x)).length = 2 * 16 := pairs_length _ 32 l0
  have c1 := pairs_le 1 _ c0
  have b1 := val_lt 2 _ (fun c h => by have := c1 c h; omega : ∀ c ∈ pairs (bl 64 x), c < 2 ^ 2)
  have s2 := step_pairs 2 (pairs (bl 64 x)) 16 l1 (by omega) (fun c h => by have := c1 c h; omega)
  have l2 : (pairs (pairs (bl 64 x))).length = 2 * 8 := pairs_length _ 16 l1
  have c2 := pairs_le 2 _ c1
  have b2 := val4_le _ c2
  have s3 := step_late (pairs (pairs (bl 64 x))) 8 l2 (by omega) c2
  have l3 : (pairs (pairs (pairs (bl 64 x)))).length = 8 := pairs_length _ 8 l2
  have c3 := pairs_le 4 _ c2
  have s4 := last_steps _ l3 c3
  have q : (pairs (pairs (pairs (bl 64 x)))).sum = cnt x.testBit 64 := by
    rw [pairs_sum _ 8 l2, pairs_sum _ 16 l1, pairs_sum _ 32 l0, bl_sum]
  rw [e0, mask_1] at s1
  rw [mask_2] at s2
  rw [mask_4] at s3
  rw [l1] at b1
  rw [l2] at b2
  simp only [Nat.reducePow, Nat.reduceMul] at s1 s2 s3 b1 b2 s4
  obtain ⟨h4, h5, h6, h7⟩ := s4
  exact ⟨_, _, _, _, _, _, s1, b1, s2, by omega, by omega, s3, rfl, h4, rfl, h5, rfl, h6, h7.trans q⟩
end Go.Proofs.Ytnmhiagnmfpipaa
