/-
  The code of words of fifteen elements: sums and values, syndromes, words with few values, check symbols, and what the decoder and its model find; plain mathematics, small cases by the kernel. Condition: the numbers are below 16, where a lemma says so.
-/
import Derived.Test.YtkeeijkjemcbcaaFldMath
namespace Go.Proofs.Ytkeeijkjemcbcaa
open Go.RowKit

theorem z_xor (a : Nat) : 0 ^^^ a = a := Nat.zero_xor a
theorem fmul_sum2 {a b c : Nat} (ha : a < 16) (hb : b < 16) (hc : c < 16) : fmul (a ^^^ b) c = fmul a c ^^^ fmul b c := by
  rw [fmul_comm (xor_lt ha hb) hc, fmul_sum hc ha hb, fmul_comm hc ha, fmul_comm hc hb]
theorem one_fmul {a : Nat} (ha : a < 16) : fmul 1 a = a := by rw [fmul_comm (by omega) ha, fmul_one ha]
theorem xor4 (a b c d : Nat) : (a ^^^ b) ^^^ (c ^^^ d) = (a ^^^ c) ^^^ (b ^^^ d) := Nat.eq_of_testBit_eq fun i => by
  simp only [Nat.testBit_xor]
  cases a.testBit i <;> cases b.testBit i <;> cases c.testBit i <;> cases d.testBit i <;> rfl
theorem xor_self_l (a b : Nat) : a ^^^ (a ^^^ b) = b := by rw [← Nat.xor_assoc, Nat.xor_self, Nat.zero_xor]

/-- All values of a word are elements. -/
def Lt16 (c : Nat → Nat) : Prop := ∀ i, c i < 16
theorem pol_xor {c d : Nat → Nat} {x : Nat} (hx : x < 16) (hc : Lt16 c) (hd : Lt16 d) : ∀ n, pol (fun i => c i ^^^ d i) x n = pol c x n ^^^ pol d x n
  | 0 => by rw [pol, pol, pol]; rfl
  | n + 1 => by
    rw [pol, pol, pol, pol_xor hx hc hd n, fmul_sum2 (pol_lt hx n fun i _ => hc i) (pol_lt hx n fun i _ => hd i) hx]
    exact xor4 _ _ _ _
/-- A word that is zero but for one place. -/
def one (m v : Nat) : Nat → Nat := fun i => if i = m then v else 0
theorem one_lt {m v : Nat} (hv : v < 16) : Lt16 (one m v) := fun i => by unfold one; split <;> omega
theorem pol_one {x m v : Nat} (hx : x < 16) (hv : v < 16) : ∀ n, pol (one m v) x n = if m < n then fmul v (fpow x (n - 1 - m)) else 0
  | 0 => rfl
  | n + 1 => by
    rw [pol, pol_one hx hv n]
    rcases Nat.lt_trichotomy m n with h | h | h
    · rw [if_pos h, if_pos (show m < n + 1 by omega), show n + 1 - 1 - m = (n - 1 - m) + 1 by omega, fpow_succ _ hx, fmul_assoc hv (fpow_lt _) hx]
      have : one m v n = 0 := by unfold one; rw [if_neg (by omega)]
      rw [this, Nat.xor_zero]
    · subst h
      rw [if_neg (by omega), if_pos (by omega), z_fmul, Nat.zero_xor, show m + 1 - 1 - m = 0 by omega, fpow_zero, fmul_one hv]
      unfold one; rw [if_pos rfl]
    · rw [if_neg (by omega), if_neg (by omega), z_fmul, Nat.zero_xor]
      unfold one; rw [if_neg (by omega)]
/-- A word with a value added in one place. -/
def upd (c : Nat → Nat) (m v : Nat) : Nat → Nat := fun i => c i ^^^ one m v i
theorem upd_lt {c : Nat → Nat} {m v : Nat} (hc : Lt16 c) (hv : v < 16) : Lt16 (upd c m v) := fun i => xor_lt (hc i) (one_lt hv i)
theorem upd_at (c : Nat → Nat) (m v : Nat) : upd c m v m = c m ^^^ v := by unfold upd one; rw [if_pos rfl]
theorem upd_ne {c : Nat → Nat} {m v i : Nat} (h : i ≠ m) : upd c m v i = c i := by unfold upd one; rw [if_neg h, Nat.xor_zero]
theorem upd_zero (c : Nat → Nat) (m : Nat) : upd c m 0 = c := funext fun i => by unfold upd one; split <;> simp
theorem pol_upd {c : Nat → Nat} {x m v n : Nat} (hx : x < 16) (hc : Lt16 c) (hv : v < 16) (hm : m < n) : pol (upd c m v) x n = pol c x n ^^^ fmul v (fpow x (n - 1 - m)) := by
  unfold upd; rw [pol_xor hx hc (one_lt hv), pol_one hx hv, if_pos hm]

/-- The four zeros of the code; the locator of a place. -/
def zr (k : Nat) : Nat := fpow 2 (k + 1)
def loc (i : Nat) : Nat := fpow 2 (14 - i)
theorem zr_lt (k : Nat) : zr k < 16 := fpow_lt _
theorem loc_lt (i : Nat) : loc i < 16 := fpow_lt _
theorem zr_loc {k i : Nat} (hk : k < 4) (hi : i < 15) : fpow (zr k) (14 - i) = fpow (loc i) (k + 1) := by
  have : ∀ k, k < 4 → ∀ i, i < 15 → fpow (zr k) (14 - i) = fpow (loc i) (k + 1) := by decide +kernel
  exact this k hk i hi
theorem loc_pos {i : Nat} (hi : i < 15) : 1 ≤ loc i := by
  have : ∀ i, i < 15 → 1 ≤ loc i := by decide +kernel
  exact this i hi
theorem loc_inj {i j : Nat} (hi : i < 15) (hj : j < 15) (h : loc i = loc j) : i = j := by
  have : ∀ i, i < 15 → ∀ j, j < 15 → loc i = loc j → i = j := by decide +kernel
  exact this i hi j hj h
theorem loc_log {a : Nat} (ha : a < 16) (h1 : 1 ≤ a) : loc (14 - logN a) = a ∧ logN a < 15 := by
  have : ∀ a, a < 16 → 1 ≤ a → loc (14 - logN a) = a ∧ logN a < 15 := by decide +kernel
  exact this a ha h1
/-- A syndrome of a word. -/
def syn6 (c : Nat → Nat) (k : Nat) : Nat := pol c (zr k) 15
theorem syn6_lt {c : Nat → Nat} (hc : Lt16 c) (k : Nat) : syn6 c k < 16 := pol_lt (zr_lt k) 15 fun i _ => hc i
theorem syn6_upd {c : Nat → Nat} {m v k : Nat} (hk : k < 4) (hc : Lt16 c) (hv : v < 16) (hm : m < 15) : syn6 (upd c m v) k = syn6 c k ^^^ fmul v (fpow (loc m) (k + 1)) := by
  unfold syn6; rw [pol_upd (zr_lt k) hc hv hm, show 15 - 1 - m = 14 - m from rfl, zr_loc hk hm]
theorem syn6_xor {c d : Nat → Nat} (hc : Lt16 c) (hd : Lt16 d) (k : Nat) : syn6 (fun i => c i ^^^ d i) k = syn6 c k ^^^ syn6 d k := pol_xor (zr_lt k) hc hd 15
theorem syn6_congr {c d : Nat → Nat} (k : Nat) (h : ∀ i, i < 15 → c i = d i) : syn6 c k = syn6 d k := pol_congr 15 h
/-- A word of the code. -/
def Zero6 (c : Nat → Nat) : Prop := ∀ k, k < 4 → syn6 c k = 0
theorem Zero6.congr {c d : Nat → Nat} (h : Zero6 c) (he : ∀ i, i < 15 → c i = d i) : Zero6 d := fun k hk => (syn6_congr k he).symm.trans (h k hk)

/-- The sum of the first n values. -/
def sx (f : Nat → Nat) : Nat → Nat
  | 0 => 0
  | n + 1 => sx f n ^^^ f n
theorem sx_lt {f : Nat → Nat} (hf : Lt16 f) : ∀ n, sx f n < 16
  | 0 => by simp [sx]
  | n + 1 => xor_lt (sx_lt hf n) (hf n)
theorem sx_congr {f g : Nat → Nat} : ∀ n, (∀ i, i < n → f i = g i) → sx f n = sx g n
  | 0, _ => rfl
  | n + 1, h => by rw [sx, sx, sx_congr n fun i hi => h i (by omega), h n (by omega)]
theorem sx_xor (f g : Nat → Nat) : ∀ n, sx (fun i => f i ^^^ g i) n = sx f n ^^^ sx g n
  | 0 => by rw [sx, sx, sx]; rfl
  | n + 1 => by rw [sx, sx, sx, sx_xor f g n]; exact xor4 _ _ _ _
theorem sx_mul {a : Nat} {f : Nat → Nat} (ha : a < 16) (hf : Lt16 f) : ∀ n, sx (fun i => fmul a (f i)) n = fmul a (sx f n)
  | 0 => by rw [sx, sx, fmul_z]
  | n + 1 => by rw [sx, sx, sx_mul ha hf n, fmul_sum ha (sx_lt hf n) (hf n)]
theorem pol_sx {c : Nat → Nat} {x : Nat} (hx : x < 16) (hc : Lt16 c) : ∀ n, pol c x n = sx (fun i => fmul (c i) (fpow x (n - 1 - i))) n
  | 0 => rfl
  | n + 1 => by
    have ht : Lt16 (fun i => fmul (c i) (fpow x (n - 1 - i))) := fun i => fmul_lt (hc i) (fpow_lt _)
    rw [pol, sx, pol_sx hx hc n, fmul_comm (sx_lt ht n) hx, ← sx_mul hx ht n, show n + 1 - 1 - n = 0 by omega, fpow_zero, fmul_one (hc n)]
    congr 1
    refine sx_congr n fun i hi => ?_
    rw [fmul_comm hx (ht i), show n + 1 - 1 - i = (n - 1 - i) + 1 by omega, fpow_succ _ hx, fmul_assoc (hc i) (fpow_lt _) hx]
theorem syn6_sx {c : Nat → Nat} {k : Nat} (hk : k < 4) (hc : Lt16 c) : syn6 c k = sx (fun i => fmul (c i) (fpow (loc i) (k + 1))) 15 := by
  unfold syn6
  rw [pol_sx (zr_lt k) hc 15]
  refine sx_congr 15 fun i hi => ?_
  rw [show 15 - 1 - i = 14 - i from rfl, zr_loc hk hi]

/-- How many of the first n values are not 0. -/
def wt (c : Nat → Nat) : Nat → Nat
  | 0 => 0
  | n + 1 => if c n = 0 then wt c n else wt c n + 1
theorem wt_congr {c d : Nat → Nat} : ∀ n, (∀ i, i < n → c i = d i) → wt c n = wt d n
  | 0, _ => rfl
  | n + 1, h => by rw [wt, wt, wt_congr n fun i hi => h i (by omega), h n (by omega)]
theorem wt_le (c : Nat → Nat) : ∀ n, wt c n ≤ n
  | 0 => Nat.le_refl _
  | n + 1 => by have := wt_le c n; rw [wt]; split <;> omega
theorem wt_zero {c : Nat → Nat} : ∀ n, wt c n = 0 → ∀ i, i < n → c i = 0
  | 0, _, i, hi => absurd hi (by omega)
  | n + 1, h, i, hi => by
    rw [wt] at h
    by_cases hz : c n = 0
    · rw [if_pos hz] at h
      by_cases he : i = n
      · rw [he, hz]
      · exact wt_zero n h i (by omega)
    · rw [if_neg hz] at h; omega
theorem wt_none {c : Nat → Nat} : ∀ n, (∀ i, i < n → c i = 0) → wt c n = 0
  | 0, _ => rfl
  | n + 1, h => by rw [wt, if_pos (h n (by omega)), wt_none n fun i hi => h i (by omega)]
theorem wt_xor (c d : Nat → Nat) : ∀ n, wt (fun i => c i ^^^ d i) n ≤ wt c n + wt d n
  | 0 => Nat.le_refl _
  | n + 1 => by
    have := wt_xor c d n
    simp only [wt]
    by_cases hc : c n = 0 <;> by_cases hd : d n = 0
    · rw [if_pos hc, if_pos hd, if_pos (by rw [hc, hd]; rfl)]; exact this
    · rw [if_pos hc, if_neg hd]; split <;> omega
    · rw [if_neg hc, if_pos hd]; split <;> omega
    · rw [if_neg hc, if_neg hd]; split <;> omega
theorem wt_one (m v : Nat) : ∀ n, wt (one m v) n ≤ if m < n then 1 else 0
  | 0 => Nat.zero_le _
  | n + 1 => by
    have := wt_one m v n
    rw [wt]
    by_cases h : n = m
    · subst h
      rw [if_neg (by omega)] at this
      rw [if_pos (show n < n + 1 by omega)]
      split <;> omega
    · have hz : one m v n = 0 := by unfold one; rw [if_neg h]
      rw [if_pos hz]
      by_cases h1 : m < n
      · rw [if_pos h1] at this; rw [if_pos (by omega)]; exact this
      · rw [if_neg h1] at this; omega
theorem wt_one1 (m v n : Nat) : wt (one m v) n ≤ 1 := by have := wt_one m v n; split at this <;> omega
theorem wt_mono {c d : Nat → Nat} : ∀ n, (∀ i, i < n → d i ≠ 0 → c i ≠ 0) → wt d n ≤ wt c n
  | 0, _ => Nat.le_refl _
  | n + 1, h => by
    have ih := wt_mono n fun i hi => h i (by omega)
    have hn := h n (by omega)
    simp only [wt]
    by_cases hd : d n = 0
    · rw [if_pos hd]; split <;> omega
    · rw [if_neg hd, if_neg (hn hd)]; omega
theorem wt_less {c d : Nat → Nat} {m : Nat} : ∀ n, m < n → (∀ i, i < n → d i ≠ 0 → c i ≠ 0) → c m ≠ 0 → d m = 0 → wt d n + 1 ≤ wt c n
  | 0, hm, _, _, _ => absurd hm (by omega)
  | n + 1, hm, h, h1, h2 => by
    simp only [wt]
    by_cases he : n = m
    · subst he
      have := wt_mono n fun i hi => h i (by omega)
      rw [if_pos h2, if_neg h1]; omega
    · have ih := wt_less n (by omega) (fun i hi => h i (by omega)) h1 h2
      have hn := h n (by omega)
      by_cases hd : d n = 0
      · rw [if_pos hd]; split <;> omega
      · rw [if_neg hd, if_neg (hn hd)]; omega
theorem wt_some {c : Nat → Nat} : ∀ n, wt c n ≠ 0 → ∃ m, m < n ∧ c m ≠ 0
  | 0, h => absurd rfl h
  | n + 1, h => by
    by_cases hz : c n = 0
    · rw [wt, if_pos hz] at h
      obtain ⟨m, hm, hc⟩ := wt_some n h
      exact ⟨m, by omega, hc⟩
    · exact ⟨n, by omega, hz⟩
theorem wt_more (c : Nat → Nat) (n : Nat) : ∀ m, wt c (n + m) ≤ wt c n + m
  | 0 => Nat.le_refl _
  | m + 1 => by have := wt_more c n m; rw [← Nat.add_assoc, wt]; split <;> omega

/-- A word with few values whose first syndromes are 0 is zero: the elimination of one value lowers both numbers by one. -/
theorem light : ∀ (t : Nat) (c : Nat → Nat), t ≤ 4 → Lt16 c → (∀ k, k < t → syn6 c k = 0) → wt c 15 ≤ t → ∀ i, i < 15 → c i = 0
  | 0, c, _, _, _, hw, i, hi => wt_zero 15 (by omega) i hi
  | t + 1, c, ht, hc, hs, hw, i, hi => by
    by_cases h0 : wt c 15 = 0
    · exact wt_zero 15 h0 i hi
    · obtain ⟨m, hm, hcm⟩ := wt_some 15 h0
      have hd : Lt16 (fun i => fmul (c i) (loc i ^^^ loc m)) := fun i => fmul_lt (hc i) (xor_lt (loc_lt i) (loc_lt m))
      have hsyn : ∀ k, k < t → syn6 (fun i => fmul (c i) (loc i ^^^ loc m)) k = 0 := fun k hk => by
        have e : syn6 (fun i => fmul (c i) (loc i ^^^ loc m)) k = syn6 c (k + 1) ^^^ fmul (loc m) (syn6 c k) := by
          rw [syn6_sx (by omega) hd, syn6_sx (k := k + 1) (by omega) hc, syn6_sx (k := k) (by omega) hc, ← sx_mul (loc_lt m) fun i => fmul_lt (hc i) (fpow_lt _), ← sx_xor]
          refine sx_congr 15 fun i hi => ?_
          have hl := loc_lt i
          have hp := fpow_lt (a := loc i) (k + 1)
          rw [fpow_succ (k + 1) hl, fmul_sum (hc i) hl (loc_lt m), fmul_sum2 (fmul_lt (hc i) hl) (fmul_lt (hc i) (loc_lt m)) hp, fmul_assoc (hc i) hl hp, fmul_comm hl hp, fmul_comm (hc i) (loc_lt m), fmul_assoc (loc_lt m) (hc i) hp]
        rw [e, hs (k + 1) (by omega), hs k (by omega), fmul_z]; rfl
      have hless := wt_less (c := c) (d := fun i => fmul (c i) (loc i ^^^ loc m)) 15 hm (fun i _ h h1 => h (by show fmul (c i) (loc i ^^^ loc m) = 0; rw [h1, z_fmul])) hcm (by show fmul (c m) (loc m ^^^ loc m) = 0; rw [Nat.xor_self, fmul_z])
      have hz := light t _ (by omega) hd hsyn (by omega)
      have hout : ∀ j, j < 15 → j ≠ m → c j = 0 := fun j hj hne => by
        rcases (fmul_zero (hc j) (xor_lt (loc_lt j) (loc_lt m))).1 (hz j hj) with h | h
        · exact h
        · exact absurd (loc_inj hj hm (xor_eq (loc_lt j) (loc_lt m) h)) hne
      have e0 : syn6 c 0 = fmul (c m) (fpow (zr 0) (14 - m)) := by
        have : syn6 c 0 = syn6 (one m (c m)) 0 := syn6_congr 0 fun j hj => by
          unfold one
          by_cases hj2 : j = m
          · rw [if_pos hj2, hj2]
          · rw [if_neg hj2, hout j hj hj2]
        rw [this, syn6, pol_one (zr_lt 0) (hc m), if_pos hm]
      rw [hs 0 (by omega), zr_loc (by omega) hm] at e0
      rcases (fmul_zero (hc m) (fpow_lt _)).1 e0.symm with h | h
      · exact absurd h hcm
      · have h1 : fpow (loc m) (0 + 1) = loc m := by rw [fpow_succ 0 (loc_lt m), fpow_zero, one_fmul (loc_lt m)]
        have := loc_pos hm
        omega
theorem zero_light {c : Nat → Nat} (hc : Lt16 c) (hz : Zero6 c) (hw : wt c 15 ≤ 4) : ∀ i, i < 15 → c i = 0 := light 4 c (by omega) hc hz hw
/-- How many of the first n places of two words differ. -/
theorem same_light {c d : Nat → Nat} (hc : Lt16 c) (hd : Lt16 d) (hz : Zero6 c) (hz' : Zero6 d) (hw : wt (fun i => c i ^^^ d i) 15 ≤ 4) : ∀ i, i < 15 → c i = d i := fun i hi =>
  xor_eq (hc i) (hd i) (zero_light (c := fun i => c i ^^^ d i) (fun i => xor_lt (hc i) (hd i)) (fun k hk => by rw [syn6_xor hc hd, hz k hk, hz' k hk]; rfl) hw i hi)
theorem near_light {w : Nat → Nat} {i j i' j' e f e' f' : Nat} (hw : Lt16 w) (he : e < 16) (hf : f < 16) (he' : e' < 16) (hf' : f' < 16)
    (hz : Zero6 (upd (upd w i e) j f)) (hz' : Zero6 (upd (upd w i' e') j' f')) : ∀ k, k < 15 → upd (upd w i e) j f k = upd (upd w i' e') j' f' k := by
  refine same_light (upd_lt (upd_lt hw he) hf) (upd_lt (upd_lt hw he') hf') hz hz' ?_
  have e1 : ∀ k, upd (upd w i e) j f k ^^^ upd (upd w i' e') j' f' k = (one i e k ^^^ one j f k) ^^^ (one i' e' k ^^^ one j' f' k) := fun k => by
    show ((w k ^^^ one i e k) ^^^ one j f k) ^^^ ((w k ^^^ one i' e' k) ^^^ one j' f' k) = _
    generalize one i e k = A
    generalize one j f k = B
    generalize one i' e' k = C
    generalize one j' f' k = D
    rw [Nat.xor_assoc (w k) A B, Nat.xor_assoc (w k) C D, xor4 (w k), Nat.xor_self, Nat.zero_xor]
  rw [wt_congr 15 fun k _ => e1 k]
  have h1 := wt_xor (fun k => one i e k ^^^ one j f k) (fun k => one i' e' k ^^^ one j' f' k) 15
  have h2 := wt_xor (one i e) (one j f) 15
  have h3 := wt_xor (one i' e') (one j' f') 15
  have := wt_one1 i e 15
  have := wt_one1 j f 15
  have := wt_one1 i' e' 15
  have := wt_one1 j' f' 15
  omega

/-- The check symbols: the state of the division after k symbols. -/
def gen6 (j : Nat) : Nat := if j = 0 then 13 else if j = 1 then 12 else if j = 2 then 8 else 7
def rem6 (d : Nat → Nat) : Nat → Nat → Nat
  | 0, _ => 0
  | k + 1, j => (if j < 3 then rem6 d k (j + 1) else 0) ^^^ fmul (d k ^^^ rem6 d k 0) (gen6 j)
theorem gen6_lt (j : Nat) : gen6 j < 16 := by unfold gen6; split; omega; split; omega; split <;> omega
theorem rem6_lt {d : Nat → Nat} (hd : Lt16 d) : ∀ k j, rem6 d k j < 16
  | 0, _ => by simp [rem6]
  | k + 1, j => xor_lt (by split; exact rem6_lt hd k _; omega) (fmul_lt (xor_lt (hd k) (rem6_lt hd k 0)) (gen6_lt j))
def ap4 (z P a b c e : Nat) : Nat := fmul (fmul (fmul (fmul P z ^^^ a) z ^^^ b) z ^^^ c) z ^^^ e
theorem ap4_xor {z P a b c e Q A B C E : Nat} (hz : z < 16) (hP : P < 16) (ha : a < 16) (hb : b < 16) (hc : c < 16) (hQ : Q < 16) (hA : A < 16) (hB : B < 16) (hC : C < 16) :
    ap4 z (P ^^^ Q) (a ^^^ A) (b ^^^ B) (c ^^^ C) (e ^^^ E) = ap4 z P a b c e ^^^ ap4 z Q A B C E := by
  have h1 : fmul (P ^^^ Q) z ^^^ (a ^^^ A) = (fmul P z ^^^ a) ^^^ (fmul Q z ^^^ A) := by rw [fmul_sum2 hP hQ hz, xor4]
  have l1 := xor_lt (fmul_lt hP hz) ha
  have m1 := xor_lt (fmul_lt hQ hz) hA
  have l2 := xor_lt (fmul_lt l1 hz) hb
  have m2 := xor_lt (fmul_lt m1 hz) hB
  have l3 := xor_lt (fmul_lt l2 hz) hc
  have m3 := xor_lt (fmul_lt m2 hz) hC
  unfold ap4
  rw [h1, fmul_sum2 l1 m1 hz, xor4, fmul_sum2 l2 m2 hz, xor4, fmul_sum2 l3 m3 hz, xor4]
theorem ap4_gen {k f : Nat} (hk : k < 4) (hf : f < 16) : ap4 (zr k) f (fmul f (gen6 0)) (fmul f (gen6 1)) (fmul f (gen6 2)) (fmul f (gen6 3)) = 0 := by
  have : ∀ k, k < 4 → ∀ f, f < 16 → ap4 (zr k) f (fmul f (gen6 0)) (fmul f (gen6 1)) (fmul f (gen6 2)) (fmul f (gen6 3)) = 0 := by decide +kernel
  exact this k hk f hf
theorem rem6_zero {d : Nat → Nat} {t : Nat} (ht : t < 4) (hd : Lt16 d) : ∀ k, ap4 (zr t) (pol d (zr t) k) (rem6 d k 0) (rem6 d k 1) (rem6 d k 2) (rem6 d k 3) = 0
  | 0 => by simp [pol, rem6, ap4, z_fmul]
  | k + 1 => by
    have ih := rem6_zero ht hd k
    have hr := rem6_lt hd k
    have hz := zr_lt t
    have hp := pol_lt hz k fun i _ => hd i
    obtain ⟨F, hF⟩ : ∃ F, F = d k ^^^ rem6 d k 0 := ⟨_, rfl⟩
    have hF16 : F < 16 := by rw [hF]; exact xor_lt (hd k) (hr 0)
    have hg := fun j => fmul_lt hF16 (gen6_lt j)
    have e1 : pol d (zr t) (k + 1) = (fmul (pol d (zr t) k) (zr t) ^^^ rem6 d k 0) ^^^ F := by
      rw [pol, hF, Nat.xor_assoc, Nat.xor_comm (d k), ← Nat.xor_assoc (rem6 d k 0), Nat.xor_self, Nat.zero_xor]
    have e2 : ∀ j, j < 3 → rem6 d (k + 1) j = rem6 d k (j + 1) ^^^ fmul F (gen6 j) := fun j hj => by rw [rem6, if_pos hj, ← hF]
    have e3 : rem6 d (k + 1) 3 = 0 ^^^ fmul F (gen6 3) := by rw [rem6, if_neg (by omega), ← hF]
    rw [e1, e2 0 (by omega), e2 1 (by omega), e2 2 (by omega), e3, ap4_xor hz (xor_lt (fmul_lt hp hz) (hr 0)) (hr 1) (hr 2) (hr 3) hF16 (hg 0) (hg 1) (hg 2), ap4_gen ht hF16, Nat.xor_zero]
    unfold ap4 at ih ⊢
    simp only [Nat.xor_zero]
    rw [ih, z_fmul]
/-- The word of the code with data d. -/
def enc6 (d : Nat → Nat) : Nat → Nat := fun i => if i < 11 then d i else rem6 d 11 (i - 11)
theorem enc6_lt {d : Nat → Nat} (hd : Lt16 d) : Lt16 (enc6 d) := fun i => by unfold enc6; split; exact hd i; exact rem6_lt hd _ _
theorem enc6_zero {d : Nat → Nat} (hd : Lt16 d) : Zero6 (enc6 d) := fun k hk => by
  have h := rem6_zero hk hd 11
  have e : pol (enc6 d) (zr k) 11 = pol d (zr k) 11 := pol_congr 11 fun i hi => by unfold enc6; rw [if_pos hi]
  show pol (enc6 d) (zr k) 15 = 0
  rw [pol, pol, pol, pol, e]
  exact h
theorem enc6_data (d : Nat → Nat) {i : Nat} (hi : i < 11) : enc6 d i = d i := by unfold enc6; rw [if_pos hi]
theorem enc6_uniq {c d : Nat → Nat} (hc : Lt16 c) (hd : Lt16 d) (hz : Zero6 c) (h : ∀ i, i < 11 → c i = d i) : ∀ i, i < 15 → c i = enc6 d i := by
  refine same_light hc (enc6_lt hd) hz (enc6_zero hd) ?_
  have h1 : wt (fun i => c i ^^^ enc6 d i) 15 ≤ _ := wt_more (fun i => c i ^^^ enc6 d i) 11 4
  have h2 : wt (fun i => c i ^^^ enc6 d i) 11 = 0 := wt_none 11 fun i hi => by show c i ^^^ enc6 d i = 0; rw [enc6_data d hi, h i hi, Nat.xor_self]
  omega
theorem enc6_congr {c d : Nat → Nat} (hc : Lt16 c) (hd : Lt16 d) (h : ∀ i, i < 11 → c i = d i) : ∀ i, i < 15 → enc6 c i = enc6 d i :=
  enc6_uniq (enc6_lt hc) hd (enc6_zero hc) fun i hi => by rw [enc6_data c hi, h i hi]
/-- The first symbol moved behind the others. -/
def turn6 (c : Nat → Nat) : Nat → Nat := fun i => if i = 0 then c 14 else c (i - 1)
theorem pol_turn {c : Nat → Nat} {z : Nat} (hz : z < 16) (hc : Lt16 c) : ∀ n, pol (turn6 c) z (n + 1) = fmul (c 14) (fpow z n) ^^^ pol c z n
  | 0 => by rw [pol, pol, pol, z_fmul, Nat.zero_xor, fpow_zero, fmul_one (hc 14), Nat.xor_zero]; rfl
  | n + 1 => by
    rw [pol, pol_turn hz hc n, fmul_sum2 (fmul_lt (hc 14) (fpow_lt n)) (pol_lt hz n fun i _ => hc i) hz, fmul_assoc (hc 14) (fpow_lt n) hz, ← fpow_succ n hz, pol, Nat.xor_assoc]
    rfl
theorem turn6_zero {c : Nat → Nat} (hc : Lt16 c) (h : Zero6 c) : Zero6 (turn6 c) := fun k hk => by
  have hz := zr_lt k
  have hz1 : 1 ≤ zr k := by
    have : ∀ k, k < 4 → 1 ≤ zr k := by decide +kernel
    exact this k hk
  have hp := pol_lt hz 14 fun i _ => hc i
  have h0 : fmul (pol c (zr k) 14) (zr k) ^^^ c 14 = 0 := h k hk
  have h1 := xor_eq (fmul_lt hp hz) (hc 14) h0
  show pol (turn6 c) (zr k) (14 + 1) = 0
  rw [pol_turn hz hc 14, fpow_inv hz hz1, ← h1, fmul_assoc hp hz (finv_lt hz), finv_mul hz hz1, fmul_one hp, Nat.xor_self]
theorem fmul_perm {a b c : Nat} (ha : a < 16) (hb : b < 16) (hc : c < 16) : fmul (fmul a b) c = fmul (fmul a c) b := by
  rw [fmul_assoc ha hb hc, fmul_comm hb hc, ← fmul_assoc ha hc hb]
theorem inv_fmul {a : Nat} (ha : a < 16) (h : a ≠ 0) : fmul (finv a) a = 1 := by rw [fmul_comm (finv_lt ha) ha, finv_mul ha (by omega)]
theorem quo_mul {a b : Nat} (ha : a < 16) (hb : b < 16) (h : b ≠ 0) : fmul (fmul a (finv b)) b = a := by rw [fmul_assoc ha (finv_lt hb) hb, inv_fmul hb h, fmul_one ha]
theorem mul_quo {a b : Nat} (ha : a < 16) (hb : b < 16) (h : b ≠ 0) : fmul (fmul a b) (finv b) = a := by rw [fmul_assoc ha hb (finv_lt hb), finv_mul hb (by omega), fmul_one ha]
theorem inv_prod {a c : Nat} (ha : a < 16) (hc : c < 16) (h : a ≠ 0) : fmul (finv (fmul a c)) a = finv c := by
  have : ∀ a, a < 16 → ∀ c, c < 16 → a ≠ 0 → fmul (finv (fmul a c)) a = finv c := by decide +kernel
  exact this a ha c hc h
theorem xor_ne {a b : Nat} (ha : a < 16) (hb : b < 16) (h : a ≠ b) : a ^^^ b ≠ 0 := fun e => h (xor_eq ha hb e)
theorem xor_zero_iff {a b : Nat} (h : a = b) : a ^^^ b = 0 := by rw [h, Nat.xor_self]
theorem xor3 (p q r : Nat) : (p ^^^ q) ^^^ ((p ^^^ r) ^^^ (q ^^^ r)) = 0 := Nat.eq_of_testBit_eq fun i => by
  simp only [Nat.testBit_xor, Nat.zero_testBit]
  cases p.testBit i <;> cases q.testBit i <;> cases r.testBit i <;> rfl
theorem xor_mid_any (p q r : Nat) : (p ^^^ q) ^^^ ((r ^^^ q) ^^^ (p ^^^ r)) = 0 := Nat.eq_of_testBit_eq fun i => by
  simp only [Nat.testBit_xor, Nat.zero_testBit]
  cases p.testBit i <;> cases q.testBit i <;> cases r.testBit i <;> rfl
theorem xor_mid (a b c : Nat) : (a ^^^ b) ^^^ (a ^^^ c) = b ^^^ c := by rw [xor4, Nat.xor_self, Nat.zero_xor]

/-- What the decoder reckons from four syndromes: the errors, each with its locator and its value; none if more than two are needed. -/
def val6 (s0 s1 a b : Nat) : Nat := fmul (s1 ^^^ fmul s0 b) (finv (fmul a (a ^^^ b)))
def locs6 (s p : Nat) : Nat → Nat → Option (Nat × Nat)
  | 0, _ => none
  | n + 1, k => if k < (k ^^^ s) ∧ fmul k (k ^^^ s) = p then some (k, k ^^^ s) else locs6 s p n (k + 1)
def one6 (s0 s1 s2 s3 : Nat) : Option (List (Nat × Nat)) :=
  if s1 = 0 then none else if fmul s2 (fmul s1 (finv s0)) = s3 then some [(fmul s1 (finv s0), fmul s0 (finv (fmul s1 (finv s0))))] else none
def det6 (s0 s1 s2 : Nat) : Nat := fmul s1 s1 ^^^ fmul s0 s2
def sumN (s0 s1 s2 s3 : Nat) : Nat := fmul s1 s2 ^^^ fmul s0 s3
def prodN (s1 s2 s3 : Nat) : Nat := fmul s2 s2 ^^^ fmul s1 s3
def two6 (s0 s1 : Nat) : Option (Nat × Nat) → Option (List (Nat × Nat))
  | none => none
  | some (a, b) => some [(a, val6 s0 s1 a b), (b, val6 s0 s1 b a)]
def errs6 (s0 s1 s2 s3 : Nat) : Option (List (Nat × Nat)) :=
  if s0 = 0 ∧ s1 = 0 ∧ s2 = 0 ∧ s3 = 0 then some [] else
  if det6 s0 s1 s2 = 0 then one6 s0 s1 s2 s3 else two6 s0 s1 (locs6 (fmul (sumN s0 s1 s2 s3) (finv (det6 s0 s1 s2))) (fmul (prodN s1 s2 s3) (finv (det6 s0 s1 s2))) 15 1)
theorem locs6_sound {s p a b : Nat} : ∀ n k, locs6 s p n k = some (a, b) → k ≤ a ∧ a < k + n ∧ b = a ^^^ s ∧ a < b ∧ fmul a b = p
  | 0, k, h => by cases h
  | n + 1, k, h => by
    rw [locs6] at h
    split at h
    · next hc => cases h; exact ⟨by omega, by omega, rfl, hc.1, hc.2⟩
    · have := locs6_sound n (k + 1) h
      exact ⟨by omega, by omega, this.2.2⟩
theorem locs6_full {s p a : Nat} : ∀ n k, k ≤ a → a < k + n → a < a ^^^ s → fmul a (a ^^^ s) = p → ∃ q, locs6 s p n k = some q
  | 0, k, h1, h2, _, _ => by omega
  | n + 1, k, h1, h2, h3, h4 => by
    rw [locs6]
    by_cases hc : k < (k ^^^ s) ∧ fmul k (k ^^^ s) = p
    · rw [if_pos hc]; exact ⟨_, rfl⟩
    · rw [if_neg hc]
      refine locs6_full n (k + 1) ?_ (by omega) h3 h4
      rcases Nat.lt_or_eq_of_le h1 with h | h
      · exact h
      · subst h; exact absurd ⟨h3, h4⟩ hc

/-- A syndrome's share of one error. -/
def pw (X v k : Nat) : Nat := fmul v (fpow X (k + 1))
theorem pw_lt {X v : Nat} (hv : v < 16) (k : Nat) : pw X v k < 16 := fmul_lt hv (fpow_lt _)
theorem pw_zero {X v : Nat} (hX : X < 16) : pw X v 0 = fmul v X := by
  unfold pw; rw [fpow_succ 0 hX, fpow_zero, one_fmul hX]
theorem pw_succ {X v : Nat} (hX : X < 16) (hv : v < 16) (k : Nat) : pw X v (k + 1) = fmul (pw X v k) X := by
  unfold pw; rw [fpow_succ (k + 1) hX, fmul_assoc hv (fpow_lt _) hX]
/-- Errors lead to four syndromes. -/
def Leads (s : Nat → Nat) : List (Nat × Nat) → Prop
  | [] => ∀ k, k < 4 → s k = 0
  | [(X, v)] => (1 ≤ X ∧ X < 16 ∧ v < 16) ∧ ∀ k, k < 4 → s k = pw X v k
  | [(X, v), (Y, u)] => (1 ≤ X ∧ X < Y ∧ Y < 16 ∧ v < 16 ∧ u < 16) ∧ ∀ k, k < 4 → s k = pw X v k ^^^ pw Y u k
  | _ => False
theorem four {P : Nat → Prop} (h0 : P 0) (h1 : P 1) (h2 : P 2) (h3 : P 3) : ∀ k, k < 4 → P k := fun k hk => by
  match k, hk with
  | 0, _ => exact h0
  | 1, _ => exact h1
  | 2, _ => exact h2
  | 3, _ => exact h3
theorem one6_sound {s : Nat → Nat} (hs : ∀ k, s k < 16) (hd : det6 (s 0) (s 1) (s 2) = 0) {p : List (Nat × Nat)} (h : one6 (s 0) (s 1) (s 2) (s 3) = some p) : Leads s p := by
  have h0 := hs 0
  have h1 := hs 1
  have h2 := hs 2
  have h3 := hs 3
  have hd' := xor_eq (fmul_lt h1 h1) (fmul_lt h0 h2) hd
  unfold one6 at h
  split at h
  · cases h
  · next hn =>
    split at h
    · next h4 =>
      cases h
      have hn0 : s 0 ≠ 0 := fun e => by
        rw [e, z_fmul] at hd'
        rcases (fmul_zero h1 h1).1 hd' with h | h <;> exact hn h
      obtain ⟨L, hL⟩ : ∃ L, L = fmul (s 1) (finv (s 0)) := ⟨_, rfl⟩
      rw [← hL] at h4 ⊢
      have hL16 : L < 16 := by rw [hL]; exact fmul_lt h1 (finv_lt h0)
      have hL1 : fmul (s 0) L = s 1 := by rw [hL, fmul_comm h0 (fmul_lt h1 (finv_lt h0)), quo_mul h1 h0 hn0]
      have hL0 : L ≠ 0 := fun e => by rw [e, fmul_z] at hL1; exact hn hL1.symm
      have hL2 : fmul (s 1) L = s 2 := by
        have e : fmul (s 0) (fmul (s 1) L) = fmul (s 0) (s 2) := by
          rw [fmul_comm h1 hL16, ← fmul_assoc h0 hL16 h1, hL1, hd']
        have e2 : fmul (s 0) (fmul (s 1) L ^^^ s 2) = 0 := by rw [fmul_sum h0 (fmul_lt h1 hL16) h2, e, Nat.xor_self]
        rcases (fmul_zero h0 (xor_lt (fmul_lt h1 hL16) h2)).1 e2 with h | h
        · exact absurd h hn0
        · exact xor_eq (fmul_lt h1 hL16) h2 h
      have hv := fmul_lt h0 (finv_lt hL16)
      have e0 : pw L (fmul (s 0) (finv L)) 0 = s 0 := by rw [pw_zero hL16, quo_mul h0 hL16 hL0]
      have e1 : pw L (fmul (s 0) (finv L)) 1 = s 1 := by rw [pw_succ hL16 hv, e0, hL1]
      have e2 : pw L (fmul (s 0) (finv L)) 2 = s 2 := by rw [pw_succ hL16 hv, e1, hL2]
      have e3 : pw L (fmul (s 0) (finv L)) 3 = s 3 := by rw [pw_succ hL16 hv, e2, h4]
      exact ⟨⟨by omega, hL16, hv⟩, four e0.symm e1.symm e2.symm e3.symm⟩
    · cases h
theorem val6_lt {s0 s1 a b : Nat} (h0 : s0 < 16) (h1 : s1 < 16) (ha : a < 16) (hb : b < 16) : val6 s0 s1 a b < 16 := fmul_lt (xor_lt h1 (fmul_lt h0 hb)) (finv_lt (fmul_lt ha (xor_lt ha hb)))
theorem val6_a {s0 s1 a b : Nat} (h0 : s0 < 16) (h1 : s1 < 16) (ha : a < 16) (hb : b < 16) (hn : a ≠ 0) : fmul (val6 s0 s1 a b) a = fmul (s1 ^^^ fmul s0 b) (finv (a ^^^ b)) := by
  unfold val6
  rw [fmul_assoc (xor_lt h1 (fmul_lt h0 hb)) (finv_lt (fmul_lt ha (xor_lt ha hb))) ha, inv_prod ha (xor_lt ha hb) hn]
theorem val6_sums {s0 s1 a b : Nat} (h0 : s0 < 16) (h1 : s1 < 16) (ha : a < 16) (hb : b < 16) (hna : a ≠ 0) (hnb : b ≠ 0) (hab : a ≠ b) :
    fmul (val6 s0 s1 a b) a ^^^ fmul (val6 s0 s1 b a) b = s0 ∧ fmul (fmul (val6 s0 s1 a b) a) a ^^^ fmul (fmul (val6 s0 s1 b a) b) b = s1 := by
  rw [val6_a h0 h1 ha hb hna, val6_a h0 h1 hb ha hnb, Nat.xor_comm b a]
  have hx := xor_lt ha hb
  have hxn := xor_ne ha hb hab
  obtain ⟨d, hd⟩ : ∃ d, d = a ^^^ b := ⟨_, rfl⟩
  rw [← hd] at hx hxn ⊢
  have hi := finv_lt hx
  have l1 := fmul_lt h0 hb
  have l2 := fmul_lt h0 ha
  have m1 := xor_lt h1 l1
  have m2 := xor_lt h1 l2
  constructor
  · rw [← fmul_sum2 m1 m2 hi, xor_mid, ← fmul_sum h0 hb ha, Nat.xor_comm b a, ← hd, mul_quo h0 hx hxn]
  · rw [fmul_perm m1 hi ha, fmul_perm m2 hi hb, ← fmul_sum2 (fmul_lt m1 ha) (fmul_lt m2 hb) hi, fmul_sum2 h1 l1 ha, fmul_sum2 h1 l2 hb, fmul_perm h0 hb ha, xor4, Nat.xor_self, Nat.xor_zero, ← fmul_sum h1 ha hb, ← hd, mul_quo h1 hx hxn]
theorem recur {D s1 s2 s3 U V σ π t : Nat} (hD : D < 16) (hn : D ≠ 0) (h1 : s1 < 16) (h2 : s2 < 16) (hσ : σ < 16) (hπ : π < 16) (ht : t < 16) (eU : fmul D σ = U) (eV : fmul D π = V) (e : fmul D t ^^^ (fmul U s2 ^^^ fmul V s1) = 0) (_ : s3 = t) : t = fmul s2 σ ^^^ fmul s1 π := by
  have hl := xor_lt (fmul_lt h2 hσ) (fmul_lt h1 hπ)
  have : fmul D (t ^^^ (fmul s2 σ ^^^ fmul s1 π)) = 0 := by
    rw [fmul_sum hD ht hl, fmul_sum hD (fmul_lt h2 hσ) (fmul_lt h1 hπ), fmul_comm h2 hσ, fmul_comm h1 hπ, ← fmul_assoc hD hσ h2, ← fmul_assoc hD hπ h1, eU, eV, e]
  rcases (fmul_zero hD (xor_lt ht hl)).1 this with h | h
  · exact absurd h hn
  · exact xor_eq ht hl h
theorem pw_recur {a σ π v : Nat} (ha : a < 16) (hv : v < 16) (hσ : σ < 16) (hπ : π < 16) (e : fmul a a = fmul a σ ^^^ π) (k : Nat) : pw a v (k + 2) = fmul (pw a v (k + 1)) σ ^^^ fmul (pw a v k) π := by
  have hp := pw_lt (X := a) hv k
  rw [pw_succ ha hv (k + 1), pw_succ ha hv k, fmul_assoc hp ha ha, e, fmul_sum hp (fmul_lt ha hσ) hπ, ← fmul_assoc hp ha hσ]
theorem two6_sound {s : Nat → Nat} (hs : ∀ k, s k < 16) (hn : det6 (s 0) (s 1) (s 2) ≠ 0) {p : List (Nat × Nat)}
    (h : two6 (s 0) (s 1) (locs6 (fmul (sumN (s 0) (s 1) (s 2) (s 3)) (finv (det6 (s 0) (s 1) (s 2)))) (fmul (prodN (s 1) (s 2) (s 3)) (finv (det6 (s 0) (s 1) (s 2)))) 15 1) = some p) : Leads s p := by
  have h0 := hs 0
  have h1 := hs 1
  have h2 := hs 2
  have h3 := hs 3
  have hD : det6 (s 0) (s 1) (s 2) < 16 := xor_lt (fmul_lt h1 h1) (fmul_lt h0 h2)
  have hU : sumN (s 0) (s 1) (s 2) (s 3) < 16 := xor_lt (fmul_lt h1 h2) (fmul_lt h0 h3)
  have hV : prodN (s 1) (s 2) (s 3) < 16 := xor_lt (fmul_lt h2 h2) (fmul_lt h1 h3)
  obtain ⟨σ, hσ⟩ : ∃ σ, σ = fmul (sumN (s 0) (s 1) (s 2) (s 3)) (finv (det6 (s 0) (s 1) (s 2))) := ⟨_, rfl⟩
  obtain ⟨π, hπ⟩ : ∃ π, π = fmul (prodN (s 1) (s 2) (s 3)) (finv (det6 (s 0) (s 1) (s 2))) := ⟨_, rfl⟩
  have hσ16 : σ < 16 := by rw [hσ]; exact fmul_lt hU (finv_lt hD)
  have hπ16 : π < 16 := by rw [hπ]; exact fmul_lt hV (finv_lt hD)
  have eU : fmul (det6 (s 0) (s 1) (s 2)) σ = sumN (s 0) (s 1) (s 2) (s 3) := by rw [fmul_comm hD hσ16, hσ, quo_mul hU hD hn]
  have eV : fmul (det6 (s 0) (s 1) (s 2)) π = prodN (s 1) (s 2) (s 3) := by rw [fmul_comm hD hπ16, hπ, quo_mul hV hD hn]
  have r2 : s 2 = fmul (s 1) σ ^^^ fmul (s 0) π := recur hD hn h0 h1 hσ16 hπ16 h2 eU eV (by
    unfold det6 sumN prodN
    rw [fmul_sum2 (fmul_lt h1 h1) (fmul_lt h0 h2) h2, fmul_sum2 (fmul_lt h1 h2) (fmul_lt h0 h3) h1, fmul_sum2 (fmul_lt h2 h2) (fmul_lt h1 h3) h0,
      fmul_perm h1 h2 h1, show fmul (fmul (s 2) (s 2)) (s 0) = fmul (fmul (s 0) (s 2)) (s 2) by rw [fmul_perm h2 h2 h0, fmul_comm h2 h0],
      show fmul (fmul (s 1) (s 3)) (s 0) = fmul (fmul (s 0) (s 3)) (s 1) by rw [fmul_perm h1 h3 h0, fmul_comm h1 h0, fmul_perm h0 h1 h3]]
    exact xor3 _ _ _) rfl
  have r3 : s 3 = fmul (s 2) σ ^^^ fmul (s 1) π := recur hD hn h1 h2 hσ16 hπ16 h3 eU eV (by
    unfold det6 sumN prodN
    rw [fmul_sum2 (fmul_lt h1 h1) (fmul_lt h0 h2) h3, fmul_sum2 (fmul_lt h1 h2) (fmul_lt h0 h3) h2, fmul_sum2 (fmul_lt h2 h2) (fmul_lt h1 h3) h1,
      fmul_perm h1 h3 h1, fmul_perm h0 h3 h2, show fmul (fmul (s 2) (s 2)) (s 1) = fmul (fmul (s 1) (s 2)) (s 2) by rw [fmul_perm h2 h2 h1, fmul_comm h2 h1], Nat.xor_comm (fmul (fmul (s 1) (s 2)) (s 2)), Nat.xor_comm (fmul (fmul (s 1) (s 2)) (s 2)) (fmul (fmul (s 1) (s 1)) (s 3)),
      Nat.xor_comm (fmul (fmul (s 0) (s 2)) (s 3)) (fmul (fmul (s 1) (s 2)) (s 2)), xor_mid_any]) rfl
  rw [← hσ, ← hπ] at h
  cases hl : locs6 σ π 15 1 with
  | none => rw [hl] at h; cases h
  | some q =>
    obtain ⟨a, b⟩ := q
    rw [hl] at h
    cases h
    obtain ⟨ha1, ha16, hb, hab, hp⟩ := locs6_sound 15 1 hl
    have ha : a < 16 := by omega
    have hb16 : b < 16 := by rw [hb]; exact xor_lt ha hσ16
    obtain ⟨e0, e1⟩ := val6_sums h0 h1 ha hb16 (by omega) (by omega) (show a ≠ b by omega)
    have v1 := val6_lt h0 h1 ha hb16
    have v2 := val6_lt h0 h1 hb16 ha
    have hσb : b ^^^ a = σ := by rw [hb, Nat.xor_comm a σ, Nat.xor_assoc, Nat.xor_self, Nat.xor_zero]
    have qa : fmul a a = fmul a σ ^^^ π := by rw [← hσb, fmul_sum ha hb16 ha, hp, Nat.xor_comm π, Nat.xor_assoc, Nat.xor_self, Nat.xor_zero]
    have qb : fmul b b = fmul b σ ^^^ π := by rw [← hσb, fmul_sum hb16 hb16 ha, fmul_comm hb16 ha, hp, Nat.xor_assoc, Nat.xor_self, Nat.xor_zero]
    have p0 : s 0 = pw a (val6 (s 0) (s 1) a b) 0 ^^^ pw b (val6 (s 0) (s 1) b a) 0 := by rw [pw_zero ha, pw_zero hb16, e0]
    have p1 : s 1 = pw a (val6 (s 0) (s 1) a b) 1 ^^^ pw b (val6 (s 0) (s 1) b a) 1 := by rw [pw_succ ha v1, pw_succ hb16 v2, pw_zero ha, pw_zero hb16, e1]
    generalize val6 (s 0) (s 1) a b = e at *
    generalize val6 (s 0) (s 1) b a = f at *
    have step : ∀ k, s k = pw a e k ^^^ pw b f k → s (k + 1) = pw a e (k + 1) ^^^ pw b f (k + 1) → fmul (s (k + 1)) σ ^^^ fmul (s k) π = pw a e (k + 2) ^^^ pw b f (k + 2) := fun k i0 i1 => by
      rw [pw_recur ha v1 hσ16 hπ16 qa, pw_recur hb16 v2 hσ16 hπ16 qb, i0, i1, fmul_sum2 (pw_lt v1 _) (pw_lt v2 _) hσ16, fmul_sum2 (pw_lt v1 _) (pw_lt v2 _) hπ16, xor4]
    have p2 := r2.trans (step 0 p0 p1)
    have p3 := r3.trans (step 1 p1 p2)
    exact ⟨⟨ha1, hab, hb16, v1, v2⟩, four p0 p1 p2 p3⟩
theorem errs6_sound {s : Nat → Nat} (hs : ∀ k, s k < 16) {p : List (Nat × Nat)} (h : errs6 (s 0) (s 1) (s 2) (s 3) = some p) : Leads s p := by
  unfold errs6 at h
  split at h
  · next h0 => cases h; exact four h0.1 h0.2.1 h0.2.2.1 h0.2.2.2
  · split at h
    · next hd => exact one6_sound hs hd h
    · next hd => exact two6_sound hs hd h
/-- The product of two sums of two errors' shares. -/
theorem cross {e f A B C D : Nat} (he : e < 16) (hf : f < 16) (hA : A < 16) (hB : B < 16) (hC : C < 16) (hD : D < 16) :
    fmul (fmul e A ^^^ fmul f B) (fmul e C ^^^ fmul f D) = (fmul (fmul e e) (fmul A C) ^^^ fmul (fmul f f) (fmul B D)) ^^^ fmul (fmul e f) (fmul A D ^^^ fmul B C) := by
  have hs : ∀ {a b c d : Nat}, a < 16 → b < 16 → c < 16 → d < 16 → fmul (fmul a b) (fmul c d) = fmul (fmul a c) (fmul b d) := fun ha hb hc hd => by
    rw [fmul_assoc ha hb (fmul_lt hc hd), ← fmul_assoc hb hc hd, fmul_comm hb hc, fmul_assoc hc hb hd, ← fmul_assoc ha hc (fmul_lt hb hd)]
  have l1 := fmul_lt he hA
  have l2 := fmul_lt hf hB
  have l3 := fmul_lt he hC
  have l4 := fmul_lt hf hD
  rw [fmul_sum2 l1 l2 (xor_lt l3 l4), fmul_sum l1 l3 l4, fmul_sum l2 l3 l4, hs he hA he hC, hs he hA hf hD, hs hf hB he hC, hs hf hB hf hD, fmul_comm hf he, fmul_sum (fmul_lt he hf) (fmul_lt hA hD) (fmul_lt hB hC)]
  generalize fmul (fmul e e) (fmul A C) = p
  generalize fmul (fmul e f) (fmul A D) = q
  generalize fmul (fmul e f) (fmul B C) = r
  generalize fmul (fmul f f) (fmul B D) = t
  rw [Nat.xor_comm r t, xor4]
theorem cross2 {e f A B C D E F G H : Nat} (he : e < 16) (hf : f < 16) (hA : A < 16) (hB : B < 16) (hC : C < 16) (hD : D < 16) (hE : E < 16) (hF : F < 16) (hG : G < 16) (hH : H < 16)
    (e1 : fmul A C = fmul E G) (e2 : fmul B D = fmul F H) :
    fmul (fmul e A ^^^ fmul f B) (fmul e C ^^^ fmul f D) ^^^ fmul (fmul e E ^^^ fmul f F) (fmul e G ^^^ fmul f H) = fmul (fmul e f) ((fmul A D ^^^ fmul B C) ^^^ (fmul E H ^^^ fmul F G)) := by
  rw [cross he hf hA hB hC hD, cross he hf hE hF hG hH, e1, e2, xor4, Nat.xor_self, Nat.zero_xor,
    ← fmul_sum (fmul_lt he hf) (xor_lt (fmul_lt hA hD) (fmul_lt hB hC)) (xor_lt (fmul_lt hE hH) (fmul_lt hF hG))]
/-- The determinant's share of two locators, and how the sum and the product of them come out. -/
def dd (X Y : Nat) : Nat := (fmul (fpow X 2) (fpow Y 2) ^^^ fmul (fpow Y 2) (fpow X 2)) ^^^ (fmul (fpow X 1) (fpow Y 3) ^^^ fmul (fpow Y 1) (fpow X 3))
theorem dd_all {X Y : Nat} (hX : 1 ≤ X) (hXY : X < Y) (hY : Y < 16) : dd X Y ≠ 0 ∧ dd X Y < 16 ∧
    ((fmul (fpow X 2) (fpow Y 3) ^^^ fmul (fpow Y 2) (fpow X 3)) ^^^ (fmul (fpow X 1) (fpow Y 4) ^^^ fmul (fpow Y 1) (fpow X 4))) = fmul (dd X Y) (X ^^^ Y) ∧
    ((fmul (fpow X 3) (fpow Y 3) ^^^ fmul (fpow Y 3) (fpow X 3)) ^^^ (fmul (fpow X 2) (fpow Y 4) ^^^ fmul (fpow Y 2) (fpow X 4))) = fmul (dd X Y) (fmul X Y) := by
  have : ∀ Y, Y < 16 → ∀ X, X < Y → 1 ≤ X → dd X Y ≠ 0 ∧ dd X Y < 16 ∧
    ((fmul (fpow X 2) (fpow Y 3) ^^^ fmul (fpow Y 2) (fpow X 3)) ^^^ (fmul (fpow X 1) (fpow Y 4) ^^^ fmul (fpow Y 1) (fpow X 4))) = fmul (dd X Y) (X ^^^ Y) ∧
    ((fmul (fpow X 3) (fpow Y 3) ^^^ fmul (fpow Y 3) (fpow X 3)) ^^^ (fmul (fpow X 2) (fpow Y 4) ^^^ fmul (fpow Y 2) (fpow X 4))) = fmul (dd X Y) (fmul X Y) := by decide +kernel
  exact this Y hY X hXY hX
theorem pow_pow {X : Nat} (hX : X < 16) : fmul (fpow X 2) (fpow X 2) = fmul (fpow X 1) (fpow X 3) ∧ fmul (fpow X 2) (fpow X 3) = fmul (fpow X 1) (fpow X 4) ∧ fmul (fpow X 3) (fpow X 3) = fmul (fpow X 2) (fpow X 4) := by
  have : ∀ X, X < 16 → fmul (fpow X 2) (fpow X 2) = fmul (fpow X 1) (fpow X 3) ∧ fmul (fpow X 2) (fpow X 3) = fmul (fpow X 1) (fpow X 4) ∧ fmul (fpow X 3) (fpow X 3) = fmul (fpow X 2) (fpow X 4) := by decide +kernel
  exact this X hX
theorem full_two {s : Nat → Nat} {X Y e f : Nat} (hX : 1 ≤ X) (hXY : X < Y) (hY : Y < 16) (he : e < 16) (hf : f < 16) (he0 : e ≠ 0) (hf0 : f ≠ 0) (h : ∀ k, k < 4 → s k = pw X e k ^^^ pw Y f k) :
    ∃ p, errs6 (s 0) (s 1) (s 2) (s 3) = some p := by
  have hX16 : X < 16 := by omega
  obtain ⟨d0, d1, d2, d3⟩ := dd_all hX hXY hY
  obtain ⟨x1, x2, x3⟩ := pow_pow hX16
  obtain ⟨y1, y2, y3⟩ := pow_pow hY
  have eD : det6 (s 0) (s 1) (s 2) = fmul (fmul e f) (dd X Y) := by
    unfold det6; rw [h 0 (by omega), h 1 (by omega), h 2 (by omega)]
    exact cross2 he hf (fpow_lt _) (fpow_lt _) (fpow_lt _) (fpow_lt _) (fpow_lt _) (fpow_lt _) (fpow_lt _) (fpow_lt _) x1 y1
  have eS : sumN (s 0) (s 1) (s 2) (s 3) = fmul (fmul e f) (fmul (dd X Y) (X ^^^ Y)) := by
    unfold sumN; rw [h 0 (by omega), h 1 (by omega), h 2 (by omega), h 3 (by omega), ← d2]
    exact cross2 he hf (fpow_lt _) (fpow_lt _) (fpow_lt _) (fpow_lt _) (fpow_lt _) (fpow_lt _) (fpow_lt _) (fpow_lt _) x2 y2
  have eP : prodN (s 1) (s 2) (s 3) = fmul (fmul e f) (fmul (dd X Y) (fmul X Y)) := by
    unfold prodN; rw [h 1 (by omega), h 2 (by omega), h 3 (by omega), ← d3]
    exact cross2 he hf (fpow_lt _) (fpow_lt _) (fpow_lt _) (fpow_lt _) (fpow_lt _) (fpow_lt _) (fpow_lt _) (fpow_lt _) x3 y3
  have hef := fmul_lt he hf
  have hD : fmul (fmul e f) (dd X Y) < 16 := fmul_lt hef d1
  have hD0 : fmul (fmul e f) (dd X Y) ≠ 0 := fun h => by
    rcases (fmul_zero hef d1).1 h with h | h
    · rcases (fmul_zero he hf).1 h with h | h
      · exact he0 h
      · exact hf0 h
    · exact d0 h
  have hxy := xor_lt hX16 hY
  have hp := fmul_lt hX16 hY
  rw [← fmul_assoc hef d1 hxy, fmul_comm hD hxy] at eS
  rw [← fmul_assoc hef d1 hp, fmul_comm hD hp] at eP
  unfold errs6
  split
  · exact ⟨_, rfl⟩
  · rw [eD, if_neg hD0, eS, eP, mul_quo hxy hD hD0, mul_quo hp hD hD0]
    have hxx : X ^^^ (X ^^^ Y) = Y := xor_self_l X Y
    obtain ⟨⟨a, b⟩, hq⟩ := locs6_full (s := X ^^^ Y) (p := fmul X Y) (a := X) 15 1 hX (by omega) (by rw [hxx]; exact hXY) (by rw [hxx])
    rw [hq]
    exact ⟨_, rfl⟩
theorem full_one {s : Nat → Nat} {X e : Nat} (hX : 1 ≤ X) (hX16 : X < 16) (he : e < 16) (he0 : e ≠ 0) (h : ∀ k, k < 4 → s k = pw X e k) : ∃ p, errs6 (s 0) (s 1) (s 2) (s 3) = some p := by
  rw [h 0 (by omega), h 1 (by omega), h 2 (by omega), h 3 (by omega)]
  have : ∀ X, X < 16 → ∀ e, e < 16 → 1 ≤ X → e ≠ 0 → (errs6 (pw X e 0) (pw X e 1) (pw X e 2) (pw X e 3)).isSome = true := by decide +kernel
  exact Option.isSome_iff_exists.1 (this X hX16 e he hX he0)
theorem full_none {s : Nat → Nat} (h : ∀ k, k < 4 → s k = 0) : ∃ p, errs6 (s 0) (s 1) (s 2) (s 3) = some p := by
  unfold errs6
  rw [if_pos ⟨h 0 (by omega), h 1 (by omega), h 2 (by omega), h 3 (by omega)⟩]
  exact ⟨_, rfl⟩

/-- The errors of a word, as the decoder finds them; the word without them. -/
def errsW (c : Nat → Nat) : Option (List (Nat × Nat)) := errs6 (syn6 c 0) (syn6 c 1) (syn6 c 2) (syn6 c 3)
def fixW (c : Nat → Nat) (p : List (Nat × Nat)) : Nat → Nat := p.foldl (fun c q => upd c (14 - logN q.1) q.2) c
/-- The word d differs from c in at most two places. -/
def Near (c d : Nat → Nat) : Prop := ∃ i j e f, i < 15 ∧ j < 15 ∧ e < 16 ∧ f < 16 ∧ d = upd (upd c i e) j f
theorem syn6_two {c : Nat → Nat} {i j e f k : Nat} (hk : k < 4) (hc : Lt16 c) (hi : i < 15) (hj : j < 15) (he : e < 16) (hf : f < 16) : syn6 (upd (upd c i e) j f) k = syn6 c k ^^^ (pw (loc i) e k ^^^ pw (loc j) f k) := by
  rw [syn6_upd hk (upd_lt hc he) hf hj, syn6_upd hk hc he hi, Nat.xor_assoc]; rfl
theorem upd_upd (c : Nat → Nat) (i e f : Nat) : upd (upd c i e) i f = upd c i (e ^^^ f) := funext fun k => by
  by_cases h : k = i
  · subst h; rw [upd_at, upd_at, upd_at, Nat.xor_assoc]
  · rw [upd_ne h, upd_ne h, upd_ne h]
theorem upd_comm (c : Nat → Nat) (i j e f : Nat) : upd (upd c i e) j f = upd (upd c j f) i e := funext fun k => by
  unfold upd; rw [Nat.xor_assoc, Nat.xor_assoc, Nat.xor_comm (one i e k)]
theorem near_one {c : Nat → Nat} {i e : Nat} (hi : i < 15) (he : e < 16) : Near c (upd c i e) := ⟨i, i, e, 0, hi, hi, he, by omega, (upd_zero _ _).symm⟩
theorem near_self (c : Nat → Nat) : Near c c := ⟨0, 0, 0, 0, by omega, by omega, by omega, by omega, by rw [upd_zero, upd_zero]⟩
theorem near_lt {c d : Nat → Nat} (hc : Lt16 c) (h : Near c d) : Lt16 d := by
  obtain ⟨i, j, e, f, _, _, he, hf, rfl⟩ := h
  exact upd_lt (upd_lt hc he) hf
theorem near_back {c d : Nat → Nat} (h : Near c d) : Near d c := by
  obtain ⟨i, j, e, f, hi, hj, he, hf, rfl⟩ := h
  refine ⟨i, j, e, f, hi, hj, he, hf, funext fun k => ?_⟩
  show c k = ((((c k ^^^ one i e k) ^^^ one j f k) ^^^ one i e k) ^^^ one j f k)
  generalize one i e k = p
  generalize one j f k = q
  rw [Nat.xor_assoc (c k), Nat.xor_assoc (c k), Nat.xor_assoc (c k), Nat.xor_assoc (p ^^^ q), Nat.xor_self, Nat.xor_zero]
theorem near_uniq {w c d : Nat → Nat} (hw : Lt16 w) (h1 : Near w c) (h2 : Near w d) (z1 : Zero6 c) (z2 : Zero6 d) : ∀ k, k < 15 → c k = d k := by
  obtain ⟨i, j, e, f, _, _, he, hf, rfl⟩ := h1
  obtain ⟨i', j', e', f', _, _, he', hf', rfl⟩ := h2
  exact near_light hw he hf he' hf' z1 z2
theorem errsW_full {c d : Nat → Nat} (hc : Lt16 c) (h : Near c d) (hz : Zero6 d) : ∃ p, errsW c = some p := by
  obtain ⟨i, j, e, f, hi, hj, he, hf, rfl⟩ := h
  have hs : ∀ k, k < 4 → syn6 c k = pw (loc i) e k ^^^ pw (loc j) f k := fun k hk => by
    have := hz k hk
    rw [syn6_two hk hc hi hj he hf] at this
    exact xor_eq (syn6_lt hc k) (xor_lt (pw_lt he k) (pw_lt hf k)) this
  have z : ∀ X k, pw X 0 k = 0 := fun X k => z_fmul _
  by_cases he0 : e = 0
  · subst he0
    by_cases hf0 : f = 0
    · subst hf0
      exact full_none fun k hk => by rw [hs k hk, z, z]; rfl
    · exact full_one (loc_pos hj) (loc_lt j) hf hf0 fun k hk => by rw [hs k hk, z, Nat.zero_xor]
  · by_cases hf0 : f = 0
    · subst hf0
      exact full_one (loc_pos hi) (loc_lt i) he he0 fun k hk => by rw [hs k hk, z, Nat.xor_zero]
    · rcases Nat.lt_trichotomy (loc i) (loc j) with h | h | h
      · exact full_two (loc_pos hi) h (loc_lt j) he hf he0 hf0 hs
      · by_cases hef : e ^^^ f = 0
        · exact full_none fun k hk => by rw [hs k hk, h]; unfold pw; rw [← fmul_sum2 he hf (fpow_lt _), hef, z_fmul]
        · exact full_one (loc_pos hj) (loc_lt j) (xor_lt he hf) hef fun k hk => by rw [hs k hk, h]; unfold pw; rw [← fmul_sum2 he hf (fpow_lt _)]
      · exact full_two (loc_pos hj) h (loc_lt i) hf he hf0 he0 fun k hk => by rw [hs k hk, Nat.xor_comm]
theorem errsW_sound {c : Nat → Nat} (hc : Lt16 c) {p : List (Nat × Nat)} (h : errsW c = some p) : Near c (fixW c p) ∧ Zero6 (fixW c p) := by
  have hl := errs6_sound (s := syn6 c) (syn6_lt hc) h
  match p, hl with
  | [], hl => exact ⟨near_self c, fun k hk => hl k hk⟩
  | [(X, v)], ⟨⟨h1, h2, h3⟩, hl⟩ =>
    obtain ⟨e1, e2⟩ := loc_log h2 h1
    refine ⟨near_one (by omega) h3, fun k hk => ?_⟩
    show syn6 (upd c (14 - logN X) v) k = 0
    rw [syn6_upd hk hc h3 (by omega), e1, hl k hk]
    exact Nat.xor_self _
  | [(X, v), (Y, u)], ⟨⟨h1, h2, h3, h4, h5⟩, hl⟩ =>
    obtain ⟨e1, e2⟩ := loc_log (a := X) (by omega) h1
    obtain ⟨e3, e4⟩ := loc_log h3 (by omega)
    refine ⟨⟨_, _, v, u, by omega, by omega, h4, h5, rfl⟩, fun k hk => ?_⟩
    show syn6 (upd (upd c (14 - logN X) v) (14 - logN Y) u) k = 0
    rw [syn6_two hk hc (by omega) (by omega) h4 h5, e1, e3, hl k hk]
    exact Nat.xor_self _

/-- The model's two values at two places. -/
def modF (s0 s1 X Y : Nat) : Nat := fmul (fmul s0 X ^^^ s1) (finv (fmul Y (X ^^^ Y)))
def modE (s0 f X Y : Nat) : Nat := fmul (s0 ^^^ fmul f Y) (finv X)
theorem modF_is {s : Nat → Nat} {X Y e f : Nat} (hX : X < 16) (hY : Y < 16) (hX0 : X ≠ 0) (hY0 : Y ≠ 0) (hne : X ≠ Y) (he : e < 16) (hf : f < 16) (h : ∀ k, k < 4 → s k = pw X e k ^^^ pw Y f k) :
    modF (s 0) (s 1) X Y = f ∧ modE (s 0) f X Y = e := by
  have e0 := h 0 (by omega)
  have e1 := h 1 (by omega)
  rw [pw_succ hX he, pw_succ hY hf] at e1
  rw [pw_zero hX, pw_zero hY] at e0 e1
  have hx := xor_lt hX hY
  have l1 := fmul_lt he hX
  have l2 := fmul_lt hf hY
  unfold modF modE
  rw [e0, e1]
  constructor
  · rw [fmul_sum2 l1 l2 hX, xor_mid, ← fmul_sum l2 hX hY, fmul_assoc hf hY hx, mul_quo hf (fmul_lt hY hx) fun h => ?_]
    rcases (fmul_zero hY hx).1 h with h | h
    · exact hY0 h
    · exact xor_ne hX hY hne h
  · rw [Nat.xor_assoc, Nat.xor_self, Nat.xor_zero, mul_quo he hX hX0]
/-- What the model tries at two places. -/
def tryE (c : Nat → Nat) (i j : Nat) : Nat := if i = j then fmul (syn6 c 0) (finv (loc i)) else modE (syn6 c 0) (modF (syn6 c 0) (syn6 c 1) (loc i) (loc j)) (loc i) (loc j)
def tryF (c : Nat → Nat) (i j : Nat) : Nat := if i = j then 0 else modF (syn6 c 0) (syn6 c 1) (loc i) (loc j)
def tryW (c : Nat → Nat) (i j : Nat) : Nat → Nat := upd (upd c i (tryE c i j)) j (tryF c i j)
theorem modF_lt {s0 s1 X Y : Nat} (h0 : s0 < 16) (h1 : s1 < 16) (hX : X < 16) (hY : Y < 16) : modF s0 s1 X Y < 16 := fmul_lt (xor_lt (fmul_lt h0 hX) h1) (finv_lt (fmul_lt hY (xor_lt hX hY)))
theorem modE_lt {s0 f X Y : Nat} (h0 : s0 < 16) (hf : f < 16) (hX : X < 16) (hY : Y < 16) : modE s0 f X Y < 16 := fmul_lt (xor_lt h0 (fmul_lt hf hY)) (finv_lt hX)
theorem tryF_lt {c : Nat → Nat} (hc : Lt16 c) (i j : Nat) : tryF c i j < 16 := by
  unfold tryF; split
  · omega
  · exact modF_lt (syn6_lt hc 0) (syn6_lt hc 1) (loc_lt i) (loc_lt j)
theorem tryE_lt {c : Nat → Nat} (hc : Lt16 c) (i j : Nat) : tryE c i j < 16 := by
  unfold tryE; split
  · exact fmul_lt (syn6_lt hc 0) (finv_lt (loc_lt i))
  · exact modE_lt (syn6_lt hc 0) (modF_lt (syn6_lt hc 0) (syn6_lt hc 1) (loc_lt i) (loc_lt j)) (loc_lt i) (loc_lt j)
theorem tryW_near {c : Nat → Nat} (hc : Lt16 c) {i j : Nat} (hi : i < 15) (hj : j < 15) : Near c (tryW c i j) := ⟨i, j, _, _, hi, hj, tryE_lt hc i j, tryF_lt hc i j, rfl⟩
/-- If a word of the code is near, some try finds it. -/
theorem try_full {c d : Nat → Nat} (hc : Lt16 c) (h : Near c d) (hz : Zero6 d) : ∃ i j, i ≤ j ∧ j < 15 ∧ tryW c i j = d := by
  have main : ∀ i j e f, i < j → j < 15 → e < 16 → f < 16 → Zero6 (upd (upd c i e) j f) → tryW c i j = upd (upd c i e) j f := fun i j e f hij hj he hf hz => by
    have hi : i < 15 := by omega
    have hs : ∀ k, k < 4 → syn6 c k = pw (loc i) e k ^^^ pw (loc j) f k := fun k hk => by
      have := hz k hk
      rw [syn6_two hk hc hi hj he hf] at this
      exact xor_eq (syn6_lt hc k) (xor_lt (pw_lt he k) (pw_lt hf k)) this
    have hne : loc i ≠ loc j := fun h => by have := loc_inj hi hj h; omega
    obtain ⟨m1, m2⟩ := modF_is (loc_lt i) (loc_lt j) (by have := loc_pos hi; omega) (by have := loc_pos hj; omega) hne he hf hs
    have hn : i ≠ j := by omega
    unfold tryW tryE tryF
    rw [if_neg hn, if_neg hn, m1, m2]
  obtain ⟨i, j, e, f, hi, hj, he, hf, rfl⟩ := h
  rcases Nat.lt_trichotomy i j with h | h | h
  · exact ⟨i, j, by omega, hj, main i j e f h hj he hf hz⟩
  · subst h
    refine ⟨i, i, Nat.le_refl _, hi, ?_⟩
    rw [upd_upd] at hz ⊢
    have h0 := hz 0 (by omega)
    rw [syn6_upd (by omega) hc (xor_lt he hf) hi] at h0
    have h1 := xor_eq (syn6_lt hc 0) (fmul_lt (xor_lt he hf) (fpow_lt _)) h0
    have hl : fpow (loc i) (0 + 1) = loc i := by rw [fpow_succ 0 (loc_lt i), fpow_zero, one_fmul (loc_lt i)]
    unfold tryW tryE tryF
    rw [if_pos rfl, if_pos rfl, upd_zero, h1, hl, mul_quo (xor_lt he hf) (loc_lt i) (by have := loc_pos hi; omega)]
  · exact ⟨j, i, by omega, hi, by rw [upd_comm c i j e f] at hz ⊢; exact main j i f e h hi hf he hz⟩
end Go.Proofs.Ytkeeijkjemcbcaa
