/-
  Repetition: rounds of sending for any sender, and the three senders. No condition; plain lemmas.
-/
import Derived.Test.YtenihedpbklmlaaRepMath
namespace Go.Proofs.Ytenihedpbklmlaa
open Go.RowKit

section
variable {σ : Type} {rd : σ → List Int} {ar : σ → Nat → Nat → σ} {lost : Nat → Bool}
/-- A list of messages is sent from transmission m on: what becomes of the sender. -/
def rdS (ar : σ → Nat → Nat → σ) (lost : Nat → Bool) : σ → Nat → List Int → σ
  | s, _, [] => s
  | s, m, x :: xs => rdS ar lost (if lost m then s else ar s x.toNat m) (m + 1) xs
theorem rdS_snoc : ∀ (s : σ) (m : Nat) (xs : List Int) (x : Int), rdS ar lost s m (xs ++ [x]) = if lost (m + xs.length) then rdS ar lost s m xs else ar (rdS ar lost s m xs) x.toNat (m + xs.length)
  | s, m, [], x => rfl
  | s, m, y :: ys, x => by
    show rdS ar lost _ (m + 1) (ys ++ [x]) = _
    rw [rdS_snoc _ (m + 1) ys x, List.length_cons, show m + 1 + ys.length = m + (ys.length + 1) by omega]
    rfl
/-- The rounds; L: what has been sent. -/
def rnS (rd : σ → List Int) (ar : σ → Nat → Nat → σ) (lost : Nat → Bool) : Nat → σ → List Int → Option (List Int × σ)
  | 0, s, L => if rd s = [] then some (L, s) else none
  | f + 1, s, L => if rd s = [] then some (L, s) else if 300 ≤ L.length then none else rnS rd ar lost f (rdS ar lost s L.length (rd s)) (L ++ rd s)
theorem rnS_done {f : Nat} {s : σ} {L : List Int} (h : rd s = []) : rnS rd ar lost f s L = some (L, s) := by
  cases f with
  | zero => rw [rnS, if_pos h]
  | succ f => rw [rnS, if_pos h]
theorem rnS_stop {f : Nat} {s : σ} {L : List Int} (h : rd s ≠ []) (hl : 300 ≤ L.length) : rnS rd ar lost f s L = none := by
  cases f with
  | zero => rw [rnS, if_neg h]
  | succ f => rw [rnS, if_neg h, if_pos hl]
theorem rnS_step {f : Nat} {s : σ} {L : List Int} (h : rd s ≠ []) (hl : ¬ 300 ≤ L.length) (hf : 301 ≤ f + L.length) : ∃ g, 301 ≤ g + (L ++ rd s).length ∧ rnS rd ar lost f s L = rnS rd ar lost g (rdS ar lost s L.length (rd s)) (L ++ rd s) := by
  cases f with
  | zero => omega
  | succ g =>
    refine ⟨g, ?_, by rw [rnS, if_neg h, if_neg hl]⟩
    rw [List.length_append]
    have := List.length_pos_iff.2 h
    omega
end

/-- Going back: the sender knows how many have been accepted. -/
def bkR (n w : Nat) (s : Nat) : List Int := up s (gbLen n w s)
def bkA (s k _t : Nat) : Nat := if k = s then s + 1 else s
theorem up_nil {b c : Nat} : up b c = [] ↔ c = 0 := by
  rw [← List.length_eq_zero_iff, up_len]
theorem bkR_nil {n w s : Nat} (hw : 1 ≤ w) : bkR n w s = [] ↔ ¬ s < n := by
  unfold bkR
  rw [up_nil]
  unfold gbLen
  omega
theorem bk_round (lost : Nat → Bool) (s m : Nat) : ∀ c, rdS bkA lost s m (up s c) = gbAcc lost m s c
  | 0 => rfl
  | c + 1 => by
    rw [up, rdS_snoc, bk_round lost s m c, up_len, gbAcc, Int.toNat_natCast]
    cases lost (m + c)
    · simp only [Bool.false_eq_true, if_false, true_and]
      unfold bkA
      by_cases e : gbAcc lost m s c = s + c
      · rw [if_pos e.symm, if_pos e, e]
      · rw [if_neg (fun h => e h.symm), if_neg e]
    · simp
theorem bk_run {n w : Nat} {lost : Nat → Bool} (hw : 1 ≤ w) : ∀ (f s : Nat) (L : List Int), (rnS (bkR n w) bkA lost f s L).map Prod.fst = (gbRun n w lost f s L.length).map (L ++ ·)
  | 0, s, L => by
    rw [rnS, gbRun]
    by_cases h : s < n
    · rw [if_neg (by rw [bkR_nil hw]; exact fun h' => h' h), if_pos h]; rfl
    · rw [if_pos ((bkR_nil hw).2 h), if_neg h]; simp
  | f + 1, s, L => by
    rw [rnS, gbRun]
    by_cases h : s < n
    · rw [if_neg (by rw [bkR_nil hw]; exact fun h' => h' h), if_pos h]
      by_cases h3 : 300 ≤ L.length
      · rw [if_pos h3, if_pos h3]; rfl
      · rw [if_neg h3, if_neg h3, bk_run hw f, show rdS bkA lost s L.length (bkR n w s) = gbAcc lost L.length s (gbLen n w s) from bk_round lost s L.length _, List.length_append, show (bkR n w s).length = gbLen n w s from up_len _ _, Option.map_map]
        congr 1
        funext R
        simp [bkR]
    · rw [if_pos ((bkR_nil hw).2 h), if_neg h]; simp

/-- Selective repetition: the sender knows who has been accepted. -/
def slF (d : Nat → Bool) (b : Nat) : Nat → List Int
  | 0 => []
  | c + 1 => if d (b + c) then slF d b c else slF d b c ++ [((b + c : Nat) : Int)]
theorem slF_next (d : Nat → Bool) (b c : Nat) : slF d b (c + 1) = if d (b + c) then slF d b c else slF d b c ++ [((b + c : Nat) : Int)] := rfl
theorem slF_len (d : Nat → Bool) (b : Nat) : ∀ c, (slF d b c).length ≤ c
  | 0 => Nat.le_refl _
  | c + 1 => by
    have := slF_len d b c
    rw [slF_next]
    split
    · omega
    · rw [List.length_append]; exact Nat.succ_le_succ this
theorem slF_mem {d : Nat → Bool} {b : Nat} {x : Int} : ∀ {c : Nat}, x ∈ slF d b c → ∃ k : Nat, x = (k : Int) ∧ b ≤ k ∧ k < b + c
  | c + 1, h => by
    rw [slF_next] at h
    split at h
    · obtain ⟨k, h1, h2, h3⟩ := slF_mem h; exact ⟨k, h1, h2, by omega⟩
    · rcases List.mem_append.1 h with h | h
      · obtain ⟨k, h1, h2, h3⟩ := slF_mem h; exact ⟨k, h1, h2, by omega⟩
      · simp at h; exact ⟨b + c, by omega, by omega, by omega⟩
/-- The first of n that has not been accepted; n: none. -/
def slU (n : Nat) (d : Nat → Bool) : Nat := srUp n d n 0
def slR (n w : Nat) (d : Nat → Bool) : List Int := slF d (slU n d) (gbLen n w (slU n d))
def slA (d : Nat → Bool) (k _t : Nat) : Nat → Bool := fun j => if j = k then true else d j
theorem sl_row (lost : Nat → Bool) (b m : Nat) (d : Nat → Bool) : ∀ c, (srRow lost b m d c).2 = slF d b c ∧ rdS slA lost d m (slF d b c) = (srRow lost b m d c).1
  | 0 => ⟨rfl, rfl⟩
  | c + 1 => by
    obtain ⟨h1, h2⟩ := sl_row lost b m d c
    have h3 : (srRow lost b m d c).1 (b + c) = d (b + c) := srRow_low (.inr (Nat.le_refl _))
    rw [srRow, slF_next, h3]
    cases hd : d (b + c)
    · simp only [Bool.false_eq_true, if_false]
      refine ⟨by rw [h1], ?_⟩
      rw [rdS_snoc, h2, h1, Int.toNat_natCast]
      funext k
      cases lost (m + (slF d b c).length)
      · simp [slA]
      · simp only [if_true, Bool.not_true]
        by_cases e : k = b + c
        · rw [if_pos e, e, h3, hd]
        · rw [if_neg e]
    · simp only [if_true]; exact ⟨h1, h2⟩
theorem srAt_up {n b : Nat} {d : Nat → Bool} (h : SrAt n b d) : slU n d = b := by
  unfold slU
  have : ∀ f a, a ≤ b → n ≤ a + f → srUp n d f a = b := by
    intro f
    induction f with
    | zero => intro a h1 h2; rw [srUp]; have := h.1; omega
    | succ f ih =>
      intro a h1 h2
      rw [srUp]
      by_cases e : a = b
      · subst e
        rw [if_neg]
        rintro ⟨h3, h4⟩
        rw [h.2.2 h3] at h4
        cases h4
      · have := h.1
        rw [if_pos ⟨by omega, h.2.1 a (by omega)⟩]
        exact ih (a + 1) (by omega) (by omega)
  exact this n 0 (Nat.zero_le _) (by omega)
theorem slU_at (n : Nat) (d : Nat → Bool) : SrAt n (slU n d) d := by
  have hi := srUp_in (d := d) (f := n) (Nat.zero_le n)
  exact ⟨hi.2, fun k hk => srUp_done k (Nat.zero_le _) hk, fun h => srUp_stop (by omega) h⟩
theorem slF_pos {d : Nat → Bool} {b : Nat} (h : d b = false) : ∀ {c : Nat}, 1 ≤ c → slF d b c ≠ []
  | 1, _ => by rw [slF_next, Nat.add_zero, h]; simp [slF]
  | c + 2, _ => by
    rw [slF_next]
    split
    · exact slF_pos h (by omega)
    · simp
theorem slR_nil {n w : Nat} {d : Nat → Bool} (hw : 1 ≤ w) : slR n w d = [] ↔ ¬ slU n d < n := by
  have ha := slU_at n d
  unfold slR
  constructor
  · intro h hlt
    exact slF_pos (ha.2.2 hlt) (gbLen_pos hlt hw) h
  · intro h
    rw [show gbLen n w (slU n d) = 0 by unfold gbLen; omega]; rfl
theorem sl_run {n w : Nat} {lost : Nat → Bool} (hw : 1 ≤ w) : ∀ (f b : Nat) (d : Nat → Bool) (L : List Int), SrAt n b d → (rnS (slR n w) slA lost f d L).map Prod.fst = (srRun n w lost f b d L.length).map (L ++ ·)
  | 0, b, d, L, hs => by
    have hu := srAt_up hs
    rw [rnS, srRun]
    by_cases h : b < n
    · rw [if_neg (by rw [slR_nil hw, hu]; exact fun h' => h' h), if_pos h]; rfl
    · rw [if_pos ((slR_nil hw).2 (by rw [hu]; exact h)), if_neg h]; simp
  | f + 1, b, d, L, hs => by
    have hu := srAt_up hs
    rw [rnS, srRun]
    by_cases h : b < n
    · rw [if_neg (by rw [slR_nil hw, hu]; exact fun h' => h' h), if_pos h]
      by_cases h3 : 300 ≤ L.length
      · rw [if_pos h3, if_pos h3]; rfl
      · have hr := sl_row lost b L.length d (gbLen n w b)
        have e1 : slR n w d = (srRow lost b L.length d (gbLen n w b)).2 := by unfold slR; rw [hu, hr.1]
        rw [if_neg h3, if_neg h3, e1, hr.1, hr.2, sl_run hw f _ _ _ hs.next, List.length_append, Option.map_map]
        congr 1
        funext R
        simp
    · rw [if_pos ((slR_nil hw).2 (by rw [hu]; exact h)), if_neg h]; simp

/-- Stop and wait: how often each has arrived, how many are confirmed. -/
structure StS where
  c : Nat → Nat
  k : Nat
def stR (n : Nat) (s : StS) : List Int := if s.k = n then [] else [(s.k : Int)]
def stA (un : Nat → Bool) (s : StS) (x t : Nat) : StS := ⟨fun j => if j = x then s.c j + 1 else s.c j, if un t then s.k else s.k + 1⟩
def stAt (lost un : Nat → Bool) (t : Nat) : StS := ⟨swC lost un t, swK lost un t⟩
theorem st_step (lost un : Nat → Bool) (t : Nat) : (if lost t then stAt lost un t else stA un (stAt lost un t) (swK lost un t) t) = stAt lost un (t + 1) := by
  unfold stAt stA
  cases hl : lost t
  · simp only [Bool.false_eq_true, if_false]
    congr 1
    · funext j
      rw [swC, hl]
      by_cases e : j = swK lost un t
      · rw [if_pos e, if_pos ⟨rfl, e⟩]
      · rw [if_neg e, if_neg (fun h => e h.2)]; rfl
    · rw [swK, hl]
      cases un t <;> rfl
  · simp only [if_true]
    congr 1
    · funext j
      rw [swC, hl]; simp
    · rw [swK, hl]; simp
theorem st_run {n : Nat} {lost un : Nat → Bool} : ∀ (f t : Nat) (L : List Int), L.length = t → t + f = 301 → t ≤ 300 → (∀ u, u < t → swK lost un u < n) → (n ≤ swK lost un 300 → ∃ L', L'.length = swT n lost un 300 ∧ rnS (stR n) (stA un) lost f (stAt lost un t) L = some (L', stAt lost un (swT n lost un 300))) ∧ (swK lost un 300 < n → rnS (stR n) (stA un) lost f (stAt lost un t) L = none)
  | 0, t, L, _, h1, h2, _ => by omega
  | f + 1, t, L, hl, h1, h2, hb => by
    have hle : swK lost un t ≤ n := by
      cases t with
      | zero => exact Nat.zero_le _
      | succ t => have := swK_step lost un t; have := hb t (by omega); omega
    by_cases e : swK lost un t = n
    · have hT : swT n lost un 300 = t := swT_first hb e h2
      have hd : stR n (stAt lost un t) = [] := if_pos e
      refine ⟨fun _ => ⟨L, by rw [hT, hl], by rw [rnS_done hd, hT]⟩, fun h => ?_⟩
      have := swK_mono lost un t (300 - t)
      rw [show t + (300 - t) = 300 by omega] at this
      omega
    · have hd : stR n (stAt lost un t) = [(swK lost un t : Int)] := if_neg e
      have hb' : ∀ u, u < t + 1 → swK lost un u < n := fun u hu => by
        by_cases e2 : u = t
        · subst e2; omega
        · exact hb u (by omega)
      by_cases h3 : t = 300
      · refine ⟨fun h => ?_, fun _ => rnS_stop (by rw [hd]; simp) (by omega)⟩
        subst h3; omega
      · have hs : rdS (stA un) lost (stAt lost un t) L.length [(swK lost un t : Int)] = stAt lost un (t + 1) := by
          rw [hl, ← st_step]
          rfl
        rw [rnS, hd, if_neg (by simp), if_neg (by omega), hs]
        exact st_run f (t + 1) (L ++ [(swK lost un t : Int)]) (by rw [List.length_append, hl]; rfl) (by omega) (by omega) hb'
end Go.Proofs.Ytenihedpbklmlaa
