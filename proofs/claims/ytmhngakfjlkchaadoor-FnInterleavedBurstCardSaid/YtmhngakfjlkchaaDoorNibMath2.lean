/-
  Blocks of code words: parts of a code, what is decoded, distances, sums of parts; plain mathematics. Condition: the lists are valid lists of blocks, where a lemma says so.
-/
import Derived.Test.YtmhngakfjlkchaaDoorNib4
namespace Go.Proofs.YtmhngakfjlkchaaDoor

/-- k lists, one after the other. -/
def cat (f : Nat → List Int) : Nat → List Int
  | 0 => []
  | k + 1 => cat f k ++ f k
theorem cat_length {f : Nat → List Int} {m : Nat} : ∀ n, (∀ i, i < n → (f i).length = m) → (cat f n).length = m * n
  | 0, _ => rfl
  | n + 1, h => by rw [cat, List.length_append, cat_length n (fun i hi => h i (by omega)), h n (by omega), Nat.mul_add, Nat.mul_one]
theorem part_cat {f : Nat → List Int} {m : Nat} : ∀ n, (∀ i, i < n → (f i).length = m) → ∀ k, k < n → part m (cat f n) k = f k
  | 0, _, k, hk => by omega
  | n + 1, h, k, hk => by
    have hl := cat_length (m := m) n (fun i hi => h i (by omega))
    have hn := h n (by omega)
    by_cases e : k = n
    · subst e
      rw [part, cat, ← hl, List.drop_left, ← hn, List.take_length]
    · have ih := part_cat n (fun i hi => h i (by omega)) k (by omega)
      have hle : m * k + m ≤ m * n := by
        have : m * (k + 1) ≤ m * n := Nat.mul_le_mul_left m (by omega)
        rw [Nat.mul_add, Nat.mul_one] at this
        exact this
      rw [← ih, part, part, cat, List.drop_append_of_le_length (by omega), List.take_append_of_le_length (by rw [List.length_drop]; omega)]
theorem encK_cat (xs : List Int) : ∀ n, encK xs n = cat (fun i => encW (part 4 xs i)) n
  | 0 => rfl
  | n + 1 => by rw [encK, cat, encK_cat xs n]
theorem decK_cat (xs : List Int) : ∀ n, decK xs n = cat (fun i => decW (part 7 xs i)) n
  | 0 => rfl
  | n + 1 => by rw [decK, cat, decK_cat xs n]
theorem part_encK (xs : List Int) (n k : Nat) (h : k < n) : part 7 (encK xs n) k = encW (part 4 xs k) := by
  rw [encK_cat]; exact part_cat n (fun i _ => encW_length _) k h
theorem part_decK (xs : List Int) (n k : Nat) (h : k < n) : part 4 (decK xs n) k = decW (part 7 xs k) := by
  rw [decK_cat]; exact part_cat n (fun i _ => decW_length _) k h
theorem take_part (m k : Nat) (xs : List Int) : xs.take (m * (k + 1)) = xs.take (m * k) ++ part m xs k := by
  rw [Nat.mul_add, Nat.mul_one, List.take_add]; rfl
/-- A list whose words are decoded to the blocks of another one. -/
theorem decK_parts {L Y : List Int} : ∀ k, (∀ i, i < k → decW (part 7 L i) = part 4 Y i) → decK L k = Y.take (4 * k)
  | 0, _ => rfl
  | k + 1, h => by rw [decK, decK_parts k (fun i hi => h i (by omega)), h k (by omega), take_part]
theorem fixK_none {L : List Int} : ∀ k, (∀ i, i < k → syn (part 7 L i) = 0) → fixK L k = 0
  | 0, _ => rfl
  | k + 1, h => by rw [fixK, fixK_none k (fun i hi => h i (by omega)), if_pos (h k (by omega))]
theorem fixK_every {L : List Int} : ∀ k, (∀ i, i < k → syn (part 7 L i) ≠ 0) → fixK L k = k
  | 0, _ => rfl
  | k + 1, h => by rw [fixK, fixK_every k (fun i hi => h i (by omega)), if_neg (h k (by omega))]
theorem encK_all {xs : List Int} (hb : xs.all isBit = true) : ∀ k, 4 * k ≤ xs.length → (encK xs k).all isBit = true
  | 0, _ => rfl
  | k + 1, h => by
    rw [encK, List.all_append, encK_all hb k (by omega), enc_bits (part_length (by omega)) (part_bits hb)]; rfl
theorem decK_all {xs : List Int} (hb : xs.all isBit = true) : ∀ k, 7 * k ≤ xs.length → (decK xs k).all isBit = true
  | 0, _ => rfl
  | k + 1, h => by
    rw [decK, List.all_append, decK_all hb k (by omega), dec_bits (part_length (by omega)) (part_bits hb)]; rfl
theorem blkOk_mk {m : Nat} {xs : List Int} (hb : xs.all isBit = true) (hl : xs.length ≤ 1024) (h1 : xs.length % m = 0) (h2 : xs.length ≤ 128 * m) : blkOk m xs = true := by
  simp [blkOk, bitsOk_mk hb hl, h1, h2]

/-- Decoding a code returns the bits, without corrections. -/
theorem back_ok {xs : List Int} (h : blkOk 4 xs = true) : blkOk 7 (encB xs) = true ∧ decB (encB xs) = xs ∧ fixB (encB xs) = 0 ∧ 4 * (encB xs).length = 7 * xs.length := by
  obtain ⟨hb, hm, hl⟩ := blkOk_parts h
  have hbi := bitsOk_all hb
  obtain ⟨N, hN⟩ : ∃ N, N = xs.length / 4 := ⟨_, rfl⟩
  have e : encB xs = encK xs N := by rw [encB_yes h, hN]
  have hel : (encB xs).length = 7 * N := by rw [e, encK_length]
  have hok : blkOk 7 (encB xs) = true := blkOk_mk (by rw [e]; exact encK_all hbi N (by omega)) (by omega) (by rw [hel]; omega) (by omega)
  have hd : (encB xs).length / 7 = N := by rw [hel]; omega
  refine ⟨hok, ?_, ?_, by omega⟩
  · rw [decB_yes hok, hd, e, decK_parts (Y := xs) N (fun i hi => by rw [part_encK _ _ _ hi, dec_enc (part_length (by omega)) (part_bits hbi)])]
    exact List.take_of_length_le (by omega)
  · rw [fixB_yes hok, hd, e]
    exact fixK_none N (fun i hi => by rw [part_encK _ _ _ hi, syn_enc (part_length (by omega)) (part_bits hbi)])
theorem part_drop (m K k : Nat) (xs : List Int) : part m (xs.drop (m * K)) k = part m xs (K + k) := by
  rw [part, part, List.drop_drop, Nat.mul_add]
theorem encK_add (xs : List Int) (K : Nat) : ∀ m, encK xs (K + m) = encK xs K ++ encK (xs.drop (4 * K)) m
  | 0 => by simp [encK]
  | m + 1 => by rw [← Nat.add_assoc, encK, encK_add xs K m, encK, part_drop, List.append_assoc]
theorem part_take {m K k : Nat} (xs : List Int) (h : k < K) : part m (xs.take (m * K)) k = part m xs k := by
  have hle : m * k + m ≤ m * K := by
    have : m * (k + 1) ≤ m * K := Nat.mul_le_mul_left m (by omega)
    rw [Nat.mul_add, Nat.mul_one] at this
    exact this
  rw [part, part, List.drop_take, List.take_take, Nat.min_eq_left (by omega)]
theorem encK_take (xs : List Int) (K : Nat) : ∀ k, k ≤ K → encK (xs.take (4 * K)) k = encK xs k
  | 0, _ => rfl
  | k + 1, h => by rw [encK, encK, encK_take xs K k (by omega), part_take xs (by omega)]
/-- Coding two parts one after the other is coding both together. -/
theorem enc_parts {xs : List Int} (h : blkOk 4 xs = true) {K : Nat} (hK : 4 * K ≤ xs.length) : encB (xs.take (4 * K)) ++ encB (xs.drop (4 * K)) = encB xs := by
  obtain ⟨hb, hm, hl⟩ := blkOk_parts h
  have hbi := bitsOk_all hb
  have h1 : blkOk 4 (xs.take (4 * K)) = true := blkOk_mk (by rw [List.all_eq_true] at hbi ⊢; exact fun x hx => hbi x (List.mem_of_mem_take hx)) (by simp; omega) (by simp; omega) (by simp; omega)
  have h2 : blkOk 4 (xs.drop (4 * K)) = true := blkOk_mk (by rw [List.all_eq_true] at hbi ⊢; exact fun x hx => hbi x (List.mem_of_mem_drop hx)) (by simp; omega) (by simp; omega) (by simp; omega)
  have l1 : (xs.take (4 * K)).length / 4 = K := by simp; omega
  have l2 : (xs.drop (4 * K)).length / 4 = xs.length / 4 - K := by simp; omega
  rw [encB_yes h1, encB_yes h2, encB_yes h, l1, l2, encK_take xs K K (Nat.le_refl _), ← encK_add, show K + (xs.length / 4 - K) = xs.length / 4 by omega]

theorem el_append_left {A B : List Int} {i : Nat} (h : i < A.length) : el (A ++ B) i = el A i := by simp [el, List.getElem?_append_left h]
theorem el_append_right {A B : List Int} {i : Nat} : el (A ++ B) (A.length + i) = el B i := by simp [el, List.getElem?_append_right]
theorem dist_append {A B C D : List Int} (h1 : A.length = C.length) : dist (A ++ B) (C ++ D) = dist A C + dist B D := by
  unfold dist
  rw [List.length_append, cnt_add]
  congr 1
  · refine cnt_congr fun i hi => ?_
    rw [xorF_at (by rw [List.length_append]; omega), xorF_at hi, el_append_left hi, el_append_left (by omega)]
  · refine cnt_congr fun i hi => ?_
    rw [xorF_at (by rw [List.length_append]; omega), xorF_at hi, el_append_right]
    have : el (C ++ D) (A.length + i) = el D i := by rw [h1]; exact el_append_right
    rw [this]
theorem dist_blocks {xs : List Int} (hb : xs.all isBit = true) {N : Nat} (hN : 7 * N ≤ xs.length) : ∀ k, k ≤ N → dist (encK (decK xs N) k) (xs.take (7 * k)) = fixK xs k
  | 0, _ => by simp [encK, fixK, dist, cnt]
  | k + 1, h => by
    have hp : (part 7 xs k).length = 7 := part_length (by omega)
    rw [encK, take_part, dist_append (by rw [encK_length, List.length_take]; omega), dist_blocks hb hN k (by omega), part_decK _ _ _ (by omega), dist_dec hp (part_bits hb), fixK]
/-- The number of corrections is the distance of a list from the code of what was decoded. -/
theorem dist_ok {xs : List Int} (h : blkOk 7 xs = true) : distOr (encB (decB xs)) xs = (fixB xs : Int) ∧ fixB xs ≤ xs.length / 7 ∧ 7 * (decB xs).length = 4 * xs.length := by
  obtain ⟨hb, hm, hl⟩ := blkOk_parts h
  have hbi := bitsOk_all hb
  obtain ⟨N, hN⟩ : ∃ N, N = xs.length / 7 := ⟨_, rfl⟩
  have e : decB xs = decK xs N := by rw [decB_yes h, hN]
  have hdl : (decB xs).length = 4 * N := by rw [e, decK_length]
  have hall : (decB xs).all isBit = true := by rw [e]; exact decK_all hbi N (by omega)
  have hok : blkOk 4 (decB xs) = true := blkOk_mk hall (by omega) (by rw [hdl]; omega) (by omega)
  have hd : (decB xs).length / 4 = N := by rw [hdl]; omega
  have e2 : encB (decB xs) = encK (decK xs N) N := by rw [encB_yes hok, hd, e]
  have hel : (encB (decB xs)).length = 7 * N := by rw [e2, encK_length]
  have hp : pairOk (encB (decB xs)) xs = true := by
    have h1 : (encB (decB xs)).all isBit = true := by rw [e2]; rw [e] at hall; exact encK_all hall N (by rw [decK_length]; omega)
    simp [pairOk, bitsOk_mk h1 (by omega), hb, hel]; omega
  have hdist := dist_blocks hbi (N := N) (by omega) N (Nat.le_refl _)
  rw [List.take_of_length_le (by omega)] at hdist
  refine ⟨?_, ?_, by omega⟩
  · rw [distOr_ok hp, e2, hdist, fixB_yes h, hN]
  · rw [fixB_yes h]; exact fixK_le _ _

/-- One bit of a list is inverted: what becomes of its words. -/
theorem part_set {L : List Int} {k p i : Nat} (v : Int) (hp : p < 7) : part 7 (L.set (7 * k + p) v) i = if i = k then (part 7 L k).set p v else part 7 L i := by
  by_cases e : i = k
  · subst e
    rw [if_pos rfl]
    simp only [part]
    apply List.ext_getElem?
    intro j
    simp only [List.getElem?_take, List.getElem?_drop, List.getElem?_set, List.length_take, List.length_drop]
    by_cases hj : j < 7
    · simp only [hj, if_true]
      by_cases e2 : p = j
      · subst e2
        have : (7 * i + p < L.length) ↔ (p < min 7 (L.length - 7 * i)) := by omega
        simp [this]
      · simp [e2]
    · simp [hj, show ¬ p = j by omega]
  · rw [if_neg e]
    simp only [part]
    apply List.ext_getElem?
    intro j
    simp only [List.getElem?_take, List.getElem?_drop, List.getElem?_set]
    by_cases hj : j < 7
    · simp [hj, show ¬ 7 * k + p = 7 * i + j by omega]
    · simp [hj]
/-- A code with one bit inverted in each of its first k words. -/
def Hurt (Y L : List Int) (N k : Nat) : Prop :=
  L.length = 7 * N ∧ L.all isBit = true ∧ (∀ i, i < k → ∃ p, p < 7 ∧ part 7 L i = (encW (part 4 Y i)).set p (1 - el (encW (part 4 Y i)) p)) ∧ ∀ i, k ≤ i → i < N → part 7 L i = encW (part 4 Y i)
theorem hurt_start {Y : List Int} {N : Nat} (hb : Y.all isBit = true) (hl : 4 * N ≤ Y.length) : Hurt Y (encK Y N) N 0 :=
  ⟨encK_length Y N, encK_all hb N hl, fun i hi => by omega, fun i _ hi => part_encK Y N i hi⟩
theorem hurt_step {Y L : List Int} {N k p : Nat} (h : Hurt Y L N k) (hk : k < N) (hp : p < 7) : Hurt Y (L.set (7 * k + p) (1 - el L (7 * k + p))) N (k + 1) := by
  obtain ⟨h1, h2, h3, h4⟩ := h
  have he : el L (7 * k + p) = el (encW (part 4 Y k)) p := by rw [← h4 k (Nat.le_refl _) hk, part_el hp]
  refine ⟨by rw [List.length_set]; exact h1, set_bits h2 (by omega), fun i hi => ?_, fun i hi hiN => ?_⟩
  · rw [part_set _ hp]
    by_cases e : i = k
    · subst e
      exact ⟨p, hp, by rw [if_pos rfl, he, h4 i (Nat.le_refl _) hk]⟩
    · rw [if_neg e]; exact h3 i (by omega)
  · rw [part_set _ hp, if_neg (by omega)]; exact h4 i (by omega) hiN
theorem hurt_end {Y L : List Int} {N : Nat} (h : Hurt Y L N N) (hb : Y.all isBit = true) (hl : Y.length = 4 * N) (hN : N ≤ 128) : blkOk 7 L = true ∧ decB L = Y ∧ fixB L = N := by
  obtain ⟨h1, h2, h3, _⟩ := h
  have hok : blkOk 7 L = true := blkOk_mk h2 (by omega) (by rw [h1]; omega) (by omega)
  have hd : L.length / 7 = N := by rw [h1]; omega
  refine ⟨hok, ?_, ?_⟩
  · rw [decB_yes hok, hd, decK_parts (Y := Y) N (fun i hi => ?_)]
    · exact List.take_of_length_le (by omega)
    · obtain ⟨p, hp, e⟩ := h3 i hi
      rw [e]; exact (dec_one (part_length (by omega)) (part_bits hb) hp).1
  · rw [fixB_yes hok, hd]
    exact fixK_every N fun i hi => by
      obtain ⟨p, hp, e⟩ := h3 i hi
      rw [e]; exact (dec_one (part_length (by omega)) (part_bits hb) hp).2
end Go.Proofs.YtmhngakfjlkchaaDoor
