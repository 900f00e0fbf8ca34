/-
  The stream code on lists of integers: codes, distances, what the functions answer; plain mathematics. Condition: the lists are bits, where a lemma says so.
-/
import Derived.Test.YtnjjblcigcblhaaDoorStrMath
import Derived.Test.YtnjjblcigcblhaaDoorLawMath
namespace Go.Proofs.YtnjjblcigcblhaaDoor
open Go.RowKit

def nats (xs : List Int) : List Nat := xs.map Int.toNat
def ints (l : List Nat) : List Int := l.map fun (n : Nat) => (n : Int)
def flat : List (Nat × Nat) → List Int
  | [] => []
  | p :: ps => (p.1 : Int) :: (p.2 : Int) :: flat ps
def prs (xs : List Int) : List (Nat × Nat) := (List.range (xs.length / 2)).map fun k => ((el xs (2 * k)).toNat, (el xs (2 * k + 1)).toNat)
theorem nats_length (xs : List Int) : (nats xs).length = xs.length := by simp [nats]
theorem ints_length (l : List Nat) : (ints l).length = l.length := by simp [ints]
theorem prs_length (xs : List Int) : (prs xs).length = xs.length / 2 := by simp [prs]
theorem el_cons (x : Int) (xs : List Int) (i : Nat) : el (x :: xs) (i + 1) = el xs i := rfl
theorem el_zero (x : Int) (xs : List Int) : el (x :: xs) 0 = x := rfl
theorem ints_el {l : List Nat} {i : Nat} : el (ints l) i = ((l.getD i 0 : Nat) : Int) := by
  simp only [el, ints, List.getD_eq_getElem?_getD, List.getElem?_map]
  cases l[i]? <;> rfl
theorem nats_get (xs : List Int) (i : Nat) : (nats xs).getD i 0 = (el xs i).toNat := by
  simp only [el, nats, List.getD_eq_getElem?_getD, List.getElem?_map]
  cases xs[i]? <;> rfl
theorem isBit_cases {x : Int} (h : isBit x = true) : x = 0 ∨ x = 1 := by simpa [isBit] using h
theorem nats_bits {xs : List Int} (h : xs.all isBit = true) : Bits2 (nats xs) := fun n hn => by
  obtain ⟨x, hx, rfl⟩ := List.mem_map.1 hn
  rcases isBit_cases (List.all_eq_true.1 h x hx) with rfl | rfl <;> decide
theorem ints_nats {xs : List Int} (h : xs.all isBit = true) : ints (nats xs) = xs := by
  refine list_ext (by rw [ints_length, nats_length]) fun i hi => ?_
  rw [ints_length, nats_length] at hi
  rw [ints_el, nats_get]
  rcases isBit_cases (List.all_eq_true.1 h _ (el_mem hi)) with e | e <;> rw [e] <;> rfl
theorem nats_ints (l : List Nat) : nats (ints l) = l := by
  simp only [nats, ints, List.map_map]
  exact List.map_id'' (fun _ => rfl) l
theorem ints_bits {l : List Nat} (h : Bits2 l) : (ints l).all isBit = true := List.all_eq_true.2 fun x hx => by
  obtain ⟨n, hn, rfl⟩ := List.mem_map.1 hx
  have := h n hn
  obtain rfl | rfl : n = 0 ∨ n = 1 := by omega
  · rfl
  · rfl
theorem ints_app (l m : List Nat) : ints (l ++ m) = ints l ++ ints m := List.map_append
theorem ints_take (l : List Nat) (n : Nat) : ints (l.take n) = (ints l).take n := List.map_take
theorem ints_inj {l m : List Nat} (h : ints l = ints m) : l = m := by
  have := congrArg nats h
  rwa [nats_ints, nats_ints] at this
theorem flat_length : ∀ ps : List (Nat × Nat), (flat ps).length = 2 * ps.length
  | [] => rfl
  | p :: ps => by simp only [flat, List.length_cons, flat_length ps]; omega
theorem flat_app : ∀ ps qs : List (Nat × Nat), flat (ps ++ qs) = flat ps ++ flat qs
  | [], _ => rfl
  | p :: ps, qs => by rw [List.cons_append, flat, flat_app ps qs, flat, List.cons_append, List.cons_append]
theorem flat_el : ∀ (ps : List (Nat × Nat)) (k : Nat), el (flat ps) (2 * k) = ((ps.getD k (0, 0)).1 : Int) ∧ el (flat ps) (2 * k + 1) = ((ps.getD k (0, 0)).2 : Int)
  | [], k => by simp [flat, el]
  | p :: ps, 0 => ⟨rfl, rfl⟩
  | p :: ps, k + 1 => by
    have ih := flat_el ps k
    rw [show 2 * (k + 1) = 2 * k + 1 + 1 by omega, flat]
    simp only [el_cons, List.getD_cons_succ]
    exact ih
theorem flat_bits {ps : List (Nat × Nat)} (h : Pairs2 ps) : (flat ps).all isBit = true := by
  induction ps with
  | nil => rfl
  | cons p ps ih =>
    have hc := h.cons
    have b : ∀ n : Nat, n < 2 → isBit (n : Int) = true := fun n hn => by
      obtain rfl | rfl : n = 0 ∨ n = 1 := by omega
      · rfl
      · rfl
    simp only [flat, List.all_cons, ih hc.2.2, b _ hc.1, b _ hc.2.1, Bool.and_self]
theorem prs_get {xs : List Int} {k : Nat} (h : 2 * k + 1 < xs.length) : (prs xs).getD k (0, 0) = ((el xs (2 * k)).toNat, (el xs (2 * k + 1)).toNat) := by
  have : k < xs.length / 2 := by omega
  simp [prs, this]
theorem prs_flat (ps : List (Nat × Nat)) : prs (flat ps) = ps := by
  apply List.ext_getElem
  · rw [prs_length, flat_length]; omega
  · intro i h1 h2
    have := flat_el ps i
    simp [prs, this.1, this.2, h2]
theorem flat_prs {xs : List Int} (h : xs.all isBit = true) (he : xs.length % 2 = 0) : flat (prs xs) = xs := by
  refine list_ext (by rw [flat_length, prs_length]; omega) fun i hi => ?_
  rw [flat_length, prs_length] at hi
  have cast : ∀ j, j < xs.length → ((el xs j).toNat : Int) = el xs j := fun j hj => by
    rcases isBit_cases (List.all_eq_true.1 h _ (el_mem hj)) with e | e <;> rw [e] <;> rfl
  rcases Nat.mod_two_eq_zero_or_one i with e | e
  · have hf := (flat_el (prs xs) (i / 2)).1
    rw [show 2 * (i / 2) = i by omega, prs_get (by omega), show 2 * (i / 2) = i by omega] at hf
    rw [hf]
    exact cast i (by omega)
  · have hf := (flat_el (prs xs) (i / 2)).2
    rw [show 2 * (i / 2) + 1 = i by omega, prs_get (by omega), show 2 * (i / 2) + 1 = i by omega] at hf
    rw [hf]
    exact cast i (by omega)
theorem prs_pairs {xs : List Int} (h : xs.all isBit = true) : Pairs2 (prs xs) := fun p hp => by
  obtain ⟨k, hk, rfl⟩ := List.mem_map.1 hp
  have hk' := List.mem_range.1 hk
  have b : ∀ j, j < xs.length → (el xs j).toNat < 2 := fun j hj => by
    rcases isBit_cases (List.all_eq_true.1 h _ (el_mem hj)) with e | e <;> rw [e] <;> decide
  exact ⟨b _ (by omega), b _ (by omega)⟩
theorem bitsOk_parts {xs : List Int} (h : bitsOk xs = true) : xs.length ≤ 1024 ∧ xs.all isBit = true := by
  simpa [bitsOk] using h
theorem bitsOk_both {xs : List Int} (hl : xs.length ≤ 1024) (hb : xs.all isBit = true) : bitsOk xs = true := by
  simp [bitsOk, hl, hb]

/-- Distances. -/
theorem dist_cons {x y : Int} {xs ys : List Int} : dist (x :: xs) (y :: ys) = (decide (x = 1) != decide (y = 1)).toNat + dist xs ys := by
  unfold dist
  rw [List.length_cons, cnt_head]
  congr 1
  exact cnt_congr fun i hi => by
    rw [xorF_at (by simp; omega), xorF_at hi]
    rfl
theorem bit_ne {a b : Nat} (ha : a < 2) (hb : b < 2) : (decide ((a : Int) = 1) != decide ((b : Int) = 1)).toNat = a ^^^ b := by
  obtain rfl | rfl : a = 0 ∨ a = 1 := by omega
  · obtain rfl | rfl : b = 0 ∨ b = 1 := by omega
    · rfl
    · rfl
  · obtain rfl | rfl : b = 0 ∨ b = 1 := by omega
    · rfl
    · rfl
theorem dist_flat : ∀ (ps qs : List (Nat × Nat)), ps.length = qs.length → Pairs2 ps → Pairs2 qs → dist (flat ps) (flat qs) = hdP ps qs
  | [], [], _, _, _ => rfl
  | [], _ :: _, h, _, _ => by simp at h
  | _ :: _, [], h, _, _ => by simp at h
  | p :: ps, q :: qs, h, hp, hq => by
    have hl : ps.length = qs.length := by simpa using h
    have hf : (flat ps).length = (flat qs).length := by rw [flat_length, flat_length, hl]
    rw [flat, flat, dist_cons, dist_cons, dist_flat ps qs hl hp.cons.2.2 hq.cons.2.2, bit_ne hp.cons.1 hq.cons.1, bit_ne hp.cons.2.1 hq.cons.2.1, hdP]
    omega

/-- What EncodeStream answers. -/
def strOk (xs : List Int) : Bool := bitsOk xs && decide (xs.length ≤ 40)
def tailed (xs : List Int) : List Nat := nats xs ++ [0, 0]
def codeL (xs : List Int) : List Int := flat (sEnc 0 0 (tailed xs))
def strOr (xs : List Int) : List Int := if strOk xs then codeL xs else []
theorem strOk_parts {xs : List Int} (h : strOk xs = true) : xs.length ≤ 40 ∧ xs.all isBit = true := by
  simp only [strOk, Bool.and_eq_true, decide_eq_true_eq] at h
  exact ⟨h.2, (bitsOk_parts h.1).2⟩
theorem strOk_mk {xs : List Int} (hl : xs.length ≤ 40) (hb : xs.all isBit = true) : strOk xs = true := by
  simp only [strOk, Bool.and_eq_true, decide_eq_true_eq]
  exact ⟨bitsOk_both (by omega) hb, hl⟩
theorem strOr_yes {xs : List Int} (h : strOk xs = true) : strOr xs = codeL xs := by simp [strOr, h]
theorem strOr_no {xs : List Int} (h : strOk xs = false) : strOr xs = [] := by simp [strOr, h]
theorem tailed_length (xs : List Int) : (tailed xs).length = xs.length + 2 := by simp [tailed, nats_length]
theorem tailed_bits {xs : List Int} (h : xs.all isBit = true) : Bits2 (tailed xs) := (nats_bits h).app (Bits2.mk (by omega) (Bits2.mk (by omega) Bits2.nil))
theorem tailed_fin (xs : List Int) : sFin 0 0 (tailed xs) = (0, 0) := sFin_tail 0 0 _
theorem codeL_length (xs : List Int) : (codeL xs).length = 2 * xs.length + 4 := by rw [codeL, flat_length, sEnc_length, tailed_length]; omega
theorem codeL_pairs {xs : List Int} (h : xs.all isBit = true) : Pairs2 (sEnc 0 0 (tailed xs)) := sEnc_pairs _ _ _ (by omega) (by omega) (tailed_bits h)
theorem codeL_bits {xs : List Int} (h : xs.all isBit = true) : (codeL xs).all isBit = true := flat_bits (codeL_pairs h)
theorem prs_code (xs : List Int) : prs (codeL xs) = sEnc 0 0 (tailed xs) := prs_flat _
theorem strOr_length (xs : List Int) : (strOr xs).length ≤ 84 := by
  unfold strOr
  split
  · rename_i h
    rw [codeL_length]
    have := (strOk_parts h).1
    omega
  · simp

/-- What DecodeStream and StreamErrors answer. -/
def codedOk (xs : List Int) : Bool := bitsOk xs && (decide (4 ≤ xs.length) && (decide (xs.length ≤ 84) && decide (xs.length % 2 = 0)))
def decL7 (xs : List Int) : List Int := ints ((allS (prs xs)).take (xs.length / 2 - 2))
def decOr7 (xs : List Int) : List Int := if codedOk xs then decL7 xs else []
def errOr7 (xs : List Int) : Int := if codedOk xs then (errS (prs xs) : Int) else -1
theorem codedOk_parts {xs : List Int} (h : codedOk xs = true) : 4 ≤ xs.length ∧ xs.length ≤ 84 ∧ xs.length % 2 = 0 ∧ xs.all isBit = true := by
  simp only [codedOk, Bool.and_eq_true, decide_eq_true_eq] at h
  exact ⟨h.2.1, h.2.2.1, h.2.2.2, (bitsOk_parts h.1).2⟩
theorem codedOk_mk {xs : List Int} (h1 : 4 ≤ xs.length) (h2 : xs.length ≤ 84) (h3 : xs.length % 2 = 0) (h4 : xs.all isBit = true) : codedOk xs = true := by
  simp only [codedOk, Bool.and_eq_true, decide_eq_true_eq]
  exact ⟨bitsOk_both (by omega) h4, h1, h2, h3⟩
theorem decOr7_yes {xs : List Int} (h : codedOk xs = true) : decOr7 xs = decL7 xs := by simp [decOr7, h]
theorem decOr7_no {xs : List Int} (h : codedOk xs = false) : decOr7 xs = [] := by simp [decOr7, h]
theorem errOr7_yes {xs : List Int} (h : codedOk xs = true) : errOr7 xs = (errS (prs xs) : Int) := by simp [errOr7, h]
theorem errOr7_no {xs : List Int} (h : codedOk xs = false) : errOr7 xs = -1 := by simp [errOr7, h]
theorem code_ok {xs : List Int} (h : strOk xs = true) : codedOk (codeL xs) = true := by
  have hl := codeL_length xs
  have h40 := (strOk_parts h).1
  exact codedOk_mk (by omega) (by omega) (by omega) (codeL_bits (strOk_parts h).2)
theorem allS_length (xs : List Int) : (allS (prs xs)).length = xs.length / 2 := by
  rw [(best_all (prs xs)).1, prs_length]
theorem decL7_length (xs : List Int) : (decL7 xs).length = xs.length / 2 - 2 := by
  rw [decL7, ints_length, List.length_take, allS_length]; omega
theorem decL7_bits (xs : List Int) : (decL7 xs).all isBit = true := ints_bits ((best_all (prs xs)).2.1.take _)
theorem dec_ok {xs : List Int} (h : codedOk xs = true) : strOk (decL7 xs) = true := by
  have := codedOk_parts h
  exact strOk_mk (by rw [decL7_length]; omega) (decL7_bits xs)
theorem decOr7_length (xs : List Int) : (decOr7 xs).length ≤ 40 := by
  unfold decOr7
  split
  · rename_i h
    rw [decL7_length]
    have := codedOk_parts h
    omega
  · simp
/-- The bits that are found, with their two zeros, are the best ones. -/
theorem tailed_dec {xs : List Int} (h : codedOk xs = true) : tailed (decL7 xs) = allS (prs xs) := by
  have hp := codedOk_parts h
  have hb := best_all (prs xs)
  have ht := tail_zero (n := xs.length / 2 - 2) (l := allS (prs xs)) (by rw [allS_length]; omega) hb.2.2.1
  rw [tailed, decL7, nats_ints]
  exact ht.symm
/-- The distance of the code of bits from a list. -/
theorem dist_code {ys xs : List Int} (hy : ys.all isBit = true) (h : codedOk xs = true) (hl : xs.length = 2 * ys.length + 4) : dist (codeL ys) xs = sCost 0 0 (tailed ys) (prs xs) := by
  have hp := codedOk_parts h
  have e := flat_prs hp.2.2.2 hp.2.2.1
  have := dist_flat (sEnc 0 0 (tailed ys)) (prs xs) (by rw [sEnc_length, tailed_length, prs_length]; omega) (codeL_pairs hy) (prs_pairs hp.2.2.2)
  rw [e] at this
  exact this
theorem pair_code {ys xs : List Int} (hy : strOk ys = true) (h : codedOk xs = true) (hl : xs.length = 2 * ys.length + 4) : pairOk (codeL ys) xs = true := by
  have hp := codedOk_parts h
  have h40 := strOk_parts hy
  have hc := codeL_length ys
  simp only [pairOk, Bool.and_eq_true, decide_eq_true_eq]
  exact ⟨⟨bitsOk_both (by omega) (codeL_bits h40.2), bitsOk_both (by omega) hp.2.2.2⟩, by omega⟩
/-- The code of what is found has the distance that is found, and no code of that length has a smaller one. -/
theorem dec_dist {xs : List Int} (h : codedOk xs = true) : dist (codeL (decL7 xs)) xs = errS (prs xs) := by
  have hp := codedOk_parts h
  rw [dist_code (decL7_bits xs) h (by rw [decL7_length]; omega), tailed_dec h]
  exact (best_all (prs xs)).2.2.2.1.symm
theorem err_least {ys xs : List Int} (hy : ys.all isBit = true) (h : codedOk xs = true) (hl : xs.length = 2 * ys.length + 4) : errS (prs xs) ≤ dist (codeL ys) xs := by
  rw [dist_code hy h hl]
  have := (best_all (prs xs)).2.2.2.2 (tailed ys) (by rw [tailed_length, prs_length]; omega) (tailed_bits hy) (tailed_fin ys)
  omega
/-- A list near to a code is decoded to its bits. -/
theorem dec_near {ys xs : List Int} (hy : ys.all isBit = true) (h : codedOk xs = true) (hl : xs.length = 2 * ys.length + 4) (hn : dist (codeL ys) xs ≤ 2) : decL7 xs = ys := by
  rw [dist_code hy h hl] at hn
  have hp := codedOk_parts h
  have e := near_dec (tailed_bits hy) (tailed_fin ys) (by rw [tailed_length, prs_length]; omega) (prs_pairs hp.2.2.2) hn
  rw [← tailed_dec h] at e
  have e2 := congrArg (List.take ys.length) e
  rw [tailed, tailed] at e2
  rw [List.take_append_of_le_length (by rw [nats_length, decL7_length]; omega), List.take_append_of_le_length (by rw [nats_length]; omega),
    List.take_of_length_le (by rw [nats_length, decL7_length]; omega), List.take_of_length_le (by rw [nats_length]; omega)] at e2
  rw [← ints_nats (decL7_bits xs), e2, ints_nats hy]
/-- Codes of different bits differ in five places or more. -/
theorem code_far {xs ys : List Int} (hx : xs.all isBit = true) (hy : ys.all isBit = true) (hl : xs.length = ys.length) (hne : xs ≠ ys) : 5 ≤ dist (codeL xs) (codeL ys) := by
  unfold codeL
  rw [dist_flat _ _ (by rw [sEnc_length, sEnc_length, tailed_length, tailed_length, hl]) (codeL_pairs hx) (codeL_pairs hy)]
  refine (sFar (tailed xs) (tailed ys) 0 0 0 0 (by rw [tailed_length, tailed_length, hl]) (tailed_bits hx) (tailed_bits hy) (by omega) (by omega) (by omega) (by omega) (tailed_fin xs) (tailed_fin ys)).2 rfl rfl fun e => hne ?_
  have e2 : nats xs = nats ys := List.append_cancel_right e
  rw [← ints_nats hx, ← ints_nats hy, e2]
theorem dist_self (xs : List Int) : dist xs xs = 0 := by
  unfold dist
  exact cnt_false fun i _ => by simp [xorF]
theorem dec_code {xs : List Int} (h : strOk xs = true) : decL7 (codeL xs) = xs :=
  dec_near (strOk_parts h).2 (code_ok h) (codeL_length xs) (by rw [dist_self]; omega)
theorem err_code {xs : List Int} (h : strOk xs = true) : errS (prs (codeL xs)) = 0 := by
  have := err_least (strOk_parts h).2 (code_ok h) (codeL_length xs)
  rw [dist_self] at this
  omega
end Go.Proofs.YtnjjblcigcblhaaDoor
