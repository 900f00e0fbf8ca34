/-
  Repetition: mathematics, what the functions of chapter 16 answer. No condition; plain lemmas.
-/
import Derived.Test.YtenihedpbklmlaaSeqMath
namespace Go.Proofs.Ytenihedpbklmlaa
open Go.RowKit

/-- How many of the first m transmissions from t on are lost. -/
def gone (lost : Nat → Bool) (t : Nat) : Nat → Nat
  | 0 => 0
  | m + 1 => gone lost t m + (lost (t + m)).toNat
theorem gone_add (lost : Nat → Bool) (t a : Nat) : ∀ b, gone lost t (a + b) = gone lost t a + gone lost (t + a) b
  | 0 => rfl
  | b + 1 => by
    show gone lost t (a + b) + (lost (t + (a + b))).toNat = gone lost t a + (gone lost (t + a) b + (lost (t + a + b)).toNat)
    rw [gone_add lost t a b, Nat.add_assoc t a b]; omega
theorem gone_none {lost : Nat → Bool} (h : ∀ t, lost t = false) (t : Nat) : ∀ m, gone lost t m = 0
  | 0 => rfl
  | m + 1 => by rw [gone, gone_none h t m, h]; rfl

/-- Stop and wait: the message that is sent, and how often each has arrived, behind t transmissions. -/
def swK (lost un : Nat → Bool) : Nat → Nat
  | 0 => 0
  | t + 1 => if lost t || un t then swK lost un t else swK lost un t + 1
def swC (lost un : Nat → Bool) : Nat → Nat → Nat
  | 0, _ => 0
  | t + 1, j => swC lost un t j + if lost t = false ∧ j = swK lost un t then 1 else 0
theorem swK_step (lost un : Nat → Bool) (t : Nat) : swK lost un t ≤ swK lost un (t + 1) ∧ swK lost un (t + 1) ≤ swK lost un t + 1 := by
  rw [swK]; split <;> omega
theorem swK_mono (lost un : Nat → Bool) (t : Nat) : ∀ d, swK lost un t ≤ swK lost un (t + d)
  | 0 => Nat.le_refl _
  | d + 1 => Nat.le_trans (swK_mono lost un t d) (swK_step lost un (t + d)).1
/-- The number of transmissions for n messages, of at most m. -/
def swT (n : Nat) (lost un : Nat → Bool) : Nat → Nat
  | 0 => 0
  | t + 1 => swT n lost un t + (decide (swK lost un t < n)).toNat
theorem swT_run {n : Nat} {lost un : Nat → Bool} : ∀ {m : Nat}, (∀ t, t < m → swK lost un t < n) → swT n lost un m = m
  | 0, _ => rfl
  | m + 1, h => by rw [swT, swT_run fun t ht => h t (by omega), decide_eq_true (h m (by omega))]; rfl
theorem swT_end {n : Nat} {lost un : Nat → Bool} {m : Nat} (h : n ≤ swK lost un m) : ∀ d, swT n lost un (m + d) = swT n lost un m
  | 0 => rfl
  | d + 1 => by
    have := swK_mono lost un m d
    show swT n lost un (m + d) + (decide (swK lost un (m + d) < n)).toNat = _
    rw [swT_end h d, decide_eq_false (by omega)]; rfl
/-- It is the first moment at which all are confirmed. -/
theorem swT_first {n : Nat} {lost un : Nat → Bool} {m M : Nat} (h : ∀ t, t < m → swK lost un t < n) (h' : swK lost un m = n) (hM : m ≤ M) : swT n lost un M = m := by
  obtain ⟨d, rfl⟩ := Nat.le.dest hM
  rw [swT_end (by omega), swT_run h]
theorem swC_pos {lost un : Nat → Bool} : ∀ {t j : Nat}, j < swK lost un t → 1 ≤ swC lost un t j
  | 0, j, h => absurd h (Nat.not_lt_zero _)
  | t + 1, j, h => by
    rw [swC]
    by_cases h1 : j < swK lost un t
    · have := swC_pos h1; omega
    · rw [swK] at h
      cases hl : lost t
      · cases hu : un t
        · rw [hl, hu] at h
          simp only [Bool.or_self, Bool.false_eq_true, if_false] at h
          rw [if_pos ⟨rfl, by omega⟩]; omega
        · rw [hl, hu] at h
          simp only [Bool.or_true, if_true] at h
          omega
      · rw [hl] at h
        simp only [Bool.true_or, if_true] at h
        omega
theorem swC_high {lost un : Nat → Bool} : ∀ {t j : Nat}, swK lost un t < j → swC lost un t j = 0
  | 0, _, _ => rfl
  | t + 1, j, h => by
    have := swK_step lost un t
    rw [swC, swC_high (by omega), if_neg (by omega)]
theorem swC_once {lost un : Nat → Bool} (hu : ∀ t, un t = false) : ∀ {t j : Nat}, swC lost un t j = if j < swK lost un t then 1 else 0
  | 0, j => by rw [if_neg (by show ¬ j < 0; omega)]; rfl
  | t + 1, j => by
    rw [swC, swC_once hu, swK, hu t]
    cases lost t
    · simp only [Bool.or_self, Bool.false_eq_true, if_false, true_and]
      by_cases h1 : j < swK lost un t
      · rw [if_pos h1, if_neg (by omega), if_pos (by omega)]
      · rw [if_neg h1]
        by_cases h2 : j = swK lost un t
        · rw [if_pos h2, if_pos (by omega)]
        · rw [if_neg h2, if_neg (by omega)]
    · simp
/-- How often the first n arrived, together. -/
def swSum (lost un : Nat → Bool) (t : Nat) : Nat → Nat
  | 0 => 0
  | n + 1 => swSum lost un t n + swC lost un t n
theorem swSum_step {lost un : Nat → Bool} {t : Nat} : ∀ n, swSum lost un (t + 1) n = swSum lost un t n + if lost t = false ∧ swK lost un t < n then 1 else 0
  | 0 => by rw [if_neg (by omega)]; rfl
  | n + 1 => by
    rw [swSum, swSum_step n, swC, swSum]
    by_cases h : lost t = false
    · by_cases h1 : swK lost un t < n
      · rw [if_pos ⟨h, h1⟩, if_neg (by omega), if_pos ⟨h, by omega⟩]; omega
      · rw [if_neg (by omega)]
        by_cases h2 : n = swK lost un t
        · rw [if_pos ⟨h, h2⟩, if_pos ⟨h, by omega⟩]; omega
        · rw [if_neg (by omega), if_neg (by omega)]; omega
    · rw [if_neg (by simp [h]), if_neg (by simp [h]), if_neg (by simp [h])]; omega
/-- Every transmission is lost or arrives. -/
theorem swSum_all {lost un : Nat → Bool} {n : Nat} : ∀ {t : Nat}, (∀ u, u < t → swK lost un u < n) → swSum lost un t n + gone lost 0 t = t
  | 0, _ => by
    have : ∀ n, swSum lost un 0 n = 0 := fun n => by
      induction n with
      | zero => rfl
      | succ n ih => rw [swSum, ih]; rfl
    rw [this]; rfl
  | t + 1, h => by
    have ih := swSum_all (t := t) fun u hu => h u (by omega)
    rw [swSum_step, gone, Nat.zero_add]
    have hk := h t (by omega)
    cases hl : lost t
    · rw [if_pos ⟨rfl, hk⟩]; simp only [Bool.toNat_false]; omega
    · rw [if_neg (by simp)]; simp only [Bool.toNat_true]; omega

/-- Numbers in ascending order. -/
def up (b : Nat) : Nat → List Int
  | 0 => []
  | c + 1 => up b c ++ [((b + c : Nat) : Int)]
theorem up_len (b : Nat) : ∀ c, (up b c).length = c
  | 0 => rfl
  | c + 1 => by rw [up, List.length_append, up_len b c]; rfl
theorem up_mem {b : Nat} : ∀ {c k : Nat}, (k : Int) ∈ up b c ↔ b ≤ k ∧ k < b + c
  | 0, k => ⟨fun h => (by cases h), fun h => absurd h.2 (by omega)⟩
  | c + 1, k => by
    rw [up, List.mem_append, up_mem, List.mem_singleton]
    omega
theorem up_add (b a : Nat) : ∀ c, up b (a + c) = up b a ++ up (b + a) c
  | 0 => by simp [up]
  | c + 1 => by
    show up b (a + c) ++ [((b + (a + c) : Nat) : Int)] = _
    rw [up_add b a c, up, List.append_assoc, Nat.add_assoc]
theorem up_el {b : Nat} : ∀ {c k : Nat}, k < c → el (up b c) k = ((b + k : Nat) : Int)
  | c + 1, k, h => by
    rw [up]
    by_cases e : k = c
    · subst e
      have h3 := up_len b k
      simp only [el, List.getD_eq_getElem?_getD]
      rw [List.getElem?_append_right (by omega), h3, Nat.sub_self]; rfl
    · have h2 := up_len b c
      have := up_el (b := b) (c := c) (k := k) (by omega)
      simp only [el, List.getD_eq_getElem?_getD] at this ⊢
      rw [List.getElem?_append_left (by omega), this]
/-- Going back: what is accepted of c messages from b on, sent from transmission m on. -/
def gbAcc (lost : Nat → Bool) (m b : Nat) : Nat → Nat
  | 0 => b
  | c + 1 => if lost (m + c) = false ∧ gbAcc lost m b c = b + c then b + c + 1 else gbAcc lost m b c
theorem gbAcc_in (lost : Nat → Bool) (m b : Nat) : ∀ c, b ≤ gbAcc lost m b c ∧ gbAcc lost m b c ≤ b + c
  | 0 => ⟨Nat.le_refl _, Nat.le_refl _⟩
  | c + 1 => by
    have := gbAcc_in lost m b c
    rw [gbAcc]; split <;> omega
theorem gbAcc_clean {lost : Nat → Bool} (h : ∀ t, lost t = false) (m b : Nat) : ∀ c, gbAcc lost m b c = b + c
  | 0 => rfl
  | c + 1 => by rw [gbAcc, gbAcc_clean h m b c, if_pos ⟨h _, rfl⟩]; omega
/-- How many are sent in a round. -/
def gbLen (n w b : Nat) : Nat := min n (b + w) - b
/-- The rounds from base b on, m transmissions done. -/
def gbRun (n w : Nat) (lost : Nat → Bool) : Nat → Nat → Nat → Option (List Int)
  | 0, b, _ => if b < n then none else some []
  | f + 1, b, m => if b < n then (if 300 ≤ m then none else (gbRun n w lost f (gbAcc lost m b (gbLen n w b)) (m + gbLen n w b)).map (up b (gbLen n w b) ++ ·)) else some []
theorem gbLen_pos {n w b : Nat} (hb : b < n) (hw : 1 ≤ w) : 1 ≤ gbLen n w b := by unfold gbLen; omega
theorem gbLen_le (n w b : Nat) : b + gbLen n w b ≤ max n b := by unfold gbLen; omega
/-- More fuel changes nothing, if there is enough. -/
theorem gbRun_fuel {n w : Nat} {lost : Nat → Bool} (hw : 1 ≤ w) : ∀ {f g b m : Nat}, 300 < m + f → 300 < m + g → gbRun n w lost f b m = gbRun n w lost g b m
  | 0, 0, _, _, _, _ => rfl
  | 0, g + 1, b, m, h, _ => by
    rw [gbRun, gbRun]
    by_cases hb : b < n
    · rw [if_pos hb, if_pos hb, if_pos (by omega)]
    · rw [if_neg hb, if_neg hb]
  | f + 1, 0, b, m, _, h => by
    rw [gbRun, gbRun]
    by_cases hb : b < n
    · rw [if_pos hb, if_pos hb, if_pos (by omega)]
    · rw [if_neg hb, if_neg hb]
  | f + 1, g + 1, b, m, h1, h2 => by
    rw [gbRun, gbRun]
    by_cases hb : b < n
    · have := gbLen_pos hb hw
      rw [if_pos hb, if_pos hb, gbRun_fuel hw (f := f) (g := g) (by omega) (by omega)]
    · rw [if_neg hb, if_neg hb]
/-- A run that ends. -/
theorem gbRun_step {n w : Nat} {lost : Nat → Bool} {f b m : Nat} {L : List Int} (hb : b < n) (h : gbRun n w lost f b m = some L) : ∃ g R, f = g + 1 ∧ m < 300 ∧ gbRun n w lost g (gbAcc lost m b (gbLen n w b)) (m + gbLen n w b) = some R ∧ L = up b (gbLen n w b) ++ R := by
  match f with
  | 0 => rw [gbRun, if_pos hb] at h; cases h
  | g + 1 =>
    rw [gbRun, if_pos hb] at h
    by_cases hm : 300 ≤ m
    · rw [if_pos hm] at h; cases h
    · rw [if_neg hm] at h
      cases hr : gbRun n w lost g (gbAcc lost m b (gbLen n w b)) (m + gbLen n w b) with
      | none => rw [hr] at h; cases h
      | some R =>
        rw [hr] at h
        exact ⟨g, R, rfl, by omega, hr, (Option.some.inj h).symm⟩
theorem gbRun_end {n w : Nat} {lost : Nat → Bool} {f b m : Nat} {L : List Int} (hb : ¬ b < n) (h : gbRun n w lost f b m = some L) : L = [] := by
  match f with
  | 0 => rw [gbRun, if_neg hb] at h; exact (Option.some.inj h).symm
  | g + 1 => rw [gbRun, if_neg hb] at h; exact (Option.some.inj h).symm
theorem gbRun_mem {n w : Nat} {lost : Nat → Bool} : ∀ {f b m : Nat} {L : List Int}, gbRun n w lost f b m = some L → (∀ x ∈ L, 0 ≤ x ∧ x < n) ∧ ∀ k : Nat, b ≤ k → k < n → (k : Int) ∈ L
  | f, b, m, L, h => by
    by_cases hb : b < n
    · obtain ⟨g, R, rfl, _, hr, rfl⟩ := gbRun_step hb h
      have ih := gbRun_mem hr
      have hl := gbLen_le n w b
      have ha := gbAcc_in lost m b (gbLen n w b)
      refine ⟨fun x hx => ?_, fun k h1 h2 => ?_⟩
      · rcases List.mem_append.1 hx with hx | hx
        · have : ∀ c, x ∈ up b c → ∃ k : Nat, x = k ∧ k < b + c := fun c => by
            induction c with
            | zero => intro h; cases h
            | succ c ih =>
              intro h
              rcases List.mem_append.1 h with h | h
              · obtain ⟨k, e, hk⟩ := ih h; exact ⟨k, e, by omega⟩
              · simp at h; exact ⟨b + c, by omega, by omega⟩
          obtain ⟨k, rfl, hk⟩ := this _ hx
          omega
        · exact ih.1 x hx
      · by_cases hk : k < b + gbLen n w b
        · exact List.mem_append.2 (.inl (up_mem.2 ⟨h1, hk⟩))
        · exact List.mem_append.2 (.inr (ih.2 k (by omega) h2))
    · rw [gbRun_end hb h]
      exact ⟨fun x hx => (by cases hx), fun k h1 h2 => by omega⟩
theorem gbRun_last {n w : Nat} {lost : Nat → Bool} (hw : 1 ≤ w) : ∀ {f b m : Nat} {L : List Int}, gbRun n w lost f b m = some L → b < n → ∃ P, L = P ++ [((n - 1 : Nat) : Int)]
  | f, b, m, L, h, hb => by
    obtain ⟨g, R, rfl, _, hr, rfl⟩ := gbRun_step hb h
    have hp := gbLen_pos hb hw
    have ha := gbAcc_in lost m b (gbLen n w b)
    have hl := gbLen_le n w b
    by_cases hb2 : gbAcc lost m b (gbLen n w b) < n
    · obtain ⟨P, e⟩ := gbRun_last hw hr hb2
      exact ⟨up b (gbLen n w b) ++ P, by rw [e, List.append_assoc]⟩
    · rw [gbRun_end hb2 hr, List.append_nil]
      obtain ⟨c, hc⟩ : ∃ c, gbLen n w b = c + 1 := ⟨gbLen n w b - 1, by omega⟩
      refine ⟨up b c, ?_⟩
      rw [hc, up]
      congr 3
      omega
theorem gbRun_clean {n w : Nat} {lost : Nat → Bool} (hw : 1 ≤ w) (hn : n ≤ 300) (hc : ∀ t, lost t = false) : ∀ {f b m : Nat}, n < b + f → m ≤ b → b ≤ n → gbRun n w lost f b m = some (up b (n - b))
  | 0, b, m, h, _, _ => by omega
  | f + 1, b, m, h, hm, hbn => by
    by_cases hb : b < n
    · have hp := gbLen_pos hb hw
      have hl := gbLen_le n w b
      rw [gbRun, if_pos hb, if_neg (by omega), gbAcc_clean hc, gbRun_clean hw hn hc (by omega) (by omega) (by omega)]
      show some (up b (gbLen n w b) ++ up (b + gbLen n w b) (n - (b + gbLen n w b))) = _
      rw [← up_add]
      congr 2
      omega
    · rw [gbRun, if_neg hb, show n - b = 0 by omega]; rfl
theorem gbRun_one {n : Nat} {lost : Nat → Bool} : ∀ {f b m : Nat} {L : List Int}, gbRun n 1 lost f b m = some L → b ≤ n → L.length + b = n + gone lost m L.length
  | f, b, m, L, h, hbn => by
    by_cases hb : b < n
    · obtain ⟨g, R, rfl, _, hr, rfl⟩ := gbRun_step hb h
      have h1 : gbLen n 1 b = 1 := by unfold gbLen; omega
      rw [h1] at hr ⊢
      rw [List.length_append, up_len, gone_add]
      have ea : gbAcc lost m b 1 = if lost m = false then b + 1 else b := by
        show (if lost (m + 0) = false ∧ b = b + 0 then b + 0 + 1 else b) = _
        simp
      have eg : gone lost m 1 = (lost m).toNat := by show 0 + (lost (m + 0)).toNat = _; simp
      have ha := gbAcc_in lost m b 1
      have ih := gbRun_one hr (by omega)
      rw [eg]
      rw [ea] at ih
      cases hl : lost m
      · rw [hl, if_pos rfl] at ih; simp only [Bool.toNat_false]; omega
      · rw [hl, if_neg (by simp)] at ih; simp only [Bool.toNat_true]; omega
    · rw [gbRun_end hb h]
      show 0 + b = n + 0
      omega

/-- Selective repetition: one row of sending, c places from base b on: who has arrived, what was sent. -/
def srRow (lost : Nat → Bool) (b m : Nat) (d : Nat → Bool) : Nat → (Nat → Bool) × List Int
  | 0 => (d, [])
  | c + 1 => if (srRow lost b m d c).1 (b + c) then srRow lost b m d c else (fun k => if k = b + c then !lost (m + (srRow lost b m d c).2.length) else (srRow lost b m d c).1 k, (srRow lost b m d c).2 ++ [((b + c : Nat) : Int)])
/-- The first message from b on that has not arrived. -/
def srUp (n : Nat) (d : Nat → Bool) : Nat → Nat → Nat
  | 0, b => b
  | f + 1, b => if b < n ∧ d b = true then srUp n d f (b + 1) else b
def srRun (n w : Nat) (lost : Nat → Bool) : Nat → Nat → (Nat → Bool) → Nat → Option (List Int)
  | 0, b, _, _ => if b < n then none else some []
  | f + 1, b, d, m => if b < n then (if 300 ≤ m then none else (srRun n w lost f (srUp n (srRow lost b m d (gbLen n w b)).1 n b) (srRow lost b m d (gbLen n w b)).1 (m + (srRow lost b m d (gbLen n w b)).2.length)).map ((srRow lost b m d (gbLen n w b)).2 ++ ·)) else some []
/-- How many of the first n have arrived. -/
def dn (d : Nat → Bool) : Nat → Nat
  | 0 => 0
  | n + 1 => dn d n + (d n).toNat
theorem dn_upd (d : Nat → Bool) (i : Nat) (v : Bool) (hi : d i = false) : ∀ n, dn (fun k => if k = i then v else d k) n = dn d n + if i < n then v.toNat else 0
  | 0 => by rw [if_neg (by omega)]; rfl
  | n + 1 => by
    rw [dn, dn_upd d i v hi n, dn]
    by_cases h : n = i
    · subst h
      rw [if_neg (by omega), if_pos rfl, if_pos (by omega), hi]; rfl
    · rw [if_neg h]
      by_cases h2 : i < n
      · rw [if_pos h2, if_pos (by omega)]; omega
      · rw [if_neg h2, if_neg (by omega)]; omega
theorem dn_all {d : Nat → Bool} : ∀ {n : Nat}, (∀ k, k < n → d k = true) → dn d n = n
  | 0, _ => rfl
  | n + 1, h => by rw [dn, dn_all fun k hk => h k (by omega), h n (by omega)]; rfl
theorem dn_none {d : Nat → Bool} : ∀ {n : Nat}, (∀ k, k < n → d k = false) → dn d n = 0
  | 0, _ => rfl
  | n + 1, h => by rw [dn, dn_none fun k hk => h k (by omega), h n (by omega)]; rfl
theorem srRow_low {lost : Nat → Bool} {b m : Nat} {d : Nat → Bool} {k : Nat} : ∀ {c : Nat}, (k < b ∨ b + c ≤ k) → (srRow lost b m d c).1 k = d k
  | 0, _ => rfl
  | c + 1, h => by
    rw [srRow]
    split
    · exact srRow_low (by omega)
    · show (if k = b + c then _ else (srRow lost b m d c).1 k) = _
      rw [if_neg (by omega)]; exact srRow_low (by omega)
theorem srRow_keep {lost : Nat → Bool} {b m : Nat} {d : Nat → Bool} {k : Nat} (hd : d k = true) : ∀ c : Nat, (srRow lost b m d c).1 k = true
  | 0 => hd
  | c + 1 => by
    rw [srRow]
    split
    · exact srRow_keep hd c
    · next h =>
      show (if k = b + c then _ else (srRow lost b m d c).1 k) = _
      by_cases e : k = b + c
      · subst e; exact absurd (srRow_keep hd c) h
      · rw [if_neg e]; exact srRow_keep hd c
theorem srRow_count {lost : Nat → Bool} {b m n : Nat} {d : Nat → Bool} : ∀ {c : Nat}, b + c ≤ n → dn (srRow lost b m d c).1 n + gone lost m (srRow lost b m d c).2.length = dn d n + (srRow lost b m d c).2.length
  | 0, _ => rfl
  | c + 1, h => by
    have ih := srRow_count (lost := lost) (b := b) (m := m) (n := n) (d := d) (c := c) (by omega)
    rw [srRow]
    split
    · exact ih
    · next hf =>
      have hf' : (srRow lost b m d c).1 (b + c) = false := by simpa using hf
      show dn (fun k => if k = b + c then !lost (m + (srRow lost b m d c).2.length) else (srRow lost b m d c).1 k) n + gone lost m ((srRow lost b m d c).2 ++ [((b + c : Nat) : Int)]).length = dn d n + ((srRow lost b m d c).2 ++ [((b + c : Nat) : Int)]).length
      rw [dn_upd _ _ _ hf', if_pos (by omega), List.length_append, List.length_singleton, gone]
      cases lost (m + (srRow lost b m d c).2.length)
      · simp only [Bool.not_false, Bool.toNat_true, Bool.toNat_false]; omega
      · simp only [Bool.not_true, Bool.toNat_true, Bool.toNat_false]; omega
theorem srRow_pos {lost : Nat → Bool} {b m : Nat} {d : Nat → Bool} (hd : d b = false) : ∀ {c : Nat}, 1 ≤ c → 1 ≤ (srRow lost b m d c).2.length
  | 1, _ => by
    rw [srRow, if_neg (by show ¬ d (b + 0) = true; rw [Nat.add_zero, hd]; simp)]
    show 1 ≤ ((srRow lost b m d 0).2 ++ _).length
    rw [List.length_append]; exact Nat.le_add_left _ _
  | c + 2, _ => by
    have := srRow_pos (lost := lost) (m := m) hd (c := c + 1) (by omega)
    rw [srRow]
    split
    · exact this
    · show 1 ≤ ((srRow lost b m d (c + 1)).2 ++ _).length
      rw [List.length_append]; omega
theorem srRow_mem {lost : Nat → Bool} {b m : Nat} {d : Nat → Bool} : ∀ {c : Nat}, ∀ x ∈ (srRow lost b m d c).2, ∃ k : Nat, x = k ∧ b ≤ k ∧ k < b + c
  | 0, x, h => by cases h
  | c + 1, x, h => by
    rw [srRow] at h
    split at h
    · obtain ⟨k, h1, h2, h3⟩ := srRow_mem x h; exact ⟨k, h1, h2, by omega⟩
    · rcases List.mem_append.1 h with h | h
      · obtain ⟨k, h1, h2, h3⟩ := srRow_mem x h; exact ⟨k, h1, h2, by omega⟩
      · simp at h; exact ⟨b + c, by omega, by omega, by omega⟩
theorem srUp_in {n : Nat} {d : Nat → Bool} : ∀ {f b : Nat}, b ≤ n → b ≤ srUp n d f b ∧ srUp n d f b ≤ n
  | 0, b, h => ⟨Nat.le_refl _, h⟩
  | f + 1, b, h => by
    rw [srUp]
    split
    · next hb => have := srUp_in (n := n) (d := d) (f := f) (b := b + 1) (by omega); omega
    · exact ⟨Nat.le_refl _, h⟩
theorem srUp_done {n : Nat} {d : Nat → Bool} : ∀ {f b : Nat}, ∀ k, b ≤ k → k < srUp n d f b → d k = true
  | 0, b, k, h1, h2 => by rw [srUp] at h2; omega
  | f + 1, b, k, h1, h2 => by
    rw [srUp] at h2
    split at h2
    · next hb =>
      by_cases e : k = b
      · subst e; exact hb.2
      · exact srUp_done k (by omega) h2
    · omega
theorem srUp_stop {n : Nat} {d : Nat → Bool} : ∀ {f b : Nat}, n ≤ b + f → srUp n d f b < n → d (srUp n d f b) = false
  | 0, b, h, h2 => by rw [srUp] at h2; omega
  | f + 1, b, h, h2 => by
    rw [srUp] at h2 ⊢
    split at h2
    · next hb => rw [if_pos hb]; exact srUp_stop (by omega) h2
    · next hb =>
      rw [if_neg hb]
      cases e : d b
      · rfl
      · exact absurd ⟨h2, e⟩ hb
/-- The last transmission of each. -/
def lastF (lost : Nat → Bool) : (Nat → Bool) → Nat → List Int → Nat → Bool
  | d, _, [] => d
  | d, m, x :: xs => lastF lost (fun k => if (k : Int) = x then !lost m else d k) (m + 1) xs
theorem lastF_app (lost : Nat → Bool) : ∀ (d : Nat → Bool) (m : Nat) (xs ys : List Int), lastF lost d m (xs ++ ys) = lastF lost (lastF lost d m xs) (m + xs.length) ys
  | d, m, [], ys => rfl
  | d, m, x :: xs, ys => by
    show lastF lost _ (m + 1) (xs ++ ys) = lastF lost (lastF lost _ (m + 1) xs) (m + (xs.length + 1)) ys
    rw [lastF_app lost _ (m + 1) xs ys, show m + 1 + xs.length = m + (xs.length + 1) by omega]
theorem lastF_row (lost : Nat → Bool) (b m : Nat) (d : Nat → Bool) : ∀ c, lastF lost d m (srRow lost b m d c).2 = (srRow lost b m d c).1
  | 0 => rfl
  | c + 1 => by
    rw [srRow]
    split
    · exact lastF_row lost b m d c
    · show lastF lost d m ((srRow lost b m d c).2 ++ [((b + c : Nat) : Int)]) = _
      rw [lastF_app, lastF_row lost b m d c]
      funext k
      show (if (k : Int) = ((b + c : Nat) : Int) then !lost (m + (srRow lost b m d c).2.length) else (srRow lost b m d c).1 k) = if k = b + c then !lost (m + (srRow lost b m d c).2.length) else (srRow lost b m d c).1 k
      by_cases e : k = b + c
      · rw [if_pos e, if_pos (by omega)]
      · rw [if_neg (by omega), if_neg e]
/-- What is known where a round begins. -/
def SrAt (n b : Nat) (d : Nat → Bool) : Prop := b ≤ n ∧ (∀ k, k < b → d k = true) ∧ (b < n → d b = false)
theorem SrAt.next {n b m w : Nat} {lost d : Nat → Bool} (h : SrAt n b d) : SrAt n (srUp n (srRow lost b m d (gbLen n w b)).1 n b) (srRow lost b m d (gbLen n w b)).1 := by
  have hi := srUp_in (d := (srRow lost b m d (gbLen n w b)).1) (f := n) h.1
  refine ⟨hi.2, fun k hk => ?_, fun h2 => srUp_stop (by omega) h2⟩
  by_cases e : k < b
  · exact srRow_keep (h.2.1 k e) _
  · exact srUp_done k (by omega) hk
theorem srRun_fuel {n w : Nat} {lost : Nat → Bool} (hw : 1 ≤ w) : ∀ {f g b m : Nat} {d : Nat → Bool}, SrAt n b d → 300 < m + f → 300 < m + g → srRun n w lost f b d m = srRun n w lost g b d m
  | 0, 0, _, _, _, _, _, _ => rfl
  | 0, g + 1, b, m, d, _, h, _ => by
    rw [srRun, srRun]
    by_cases hb : b < n
    · rw [if_pos hb, if_pos hb, if_pos (by omega)]
    · rw [if_neg hb, if_neg hb]
  | f + 1, 0, b, m, d, _, _, h => by
    rw [srRun, srRun]
    by_cases hb : b < n
    · rw [if_pos hb, if_pos hb, if_pos (by omega)]
    · rw [if_neg hb, if_neg hb]
  | f + 1, g + 1, b, m, d, hs, h1, h2 => by
    rw [srRun, srRun]
    by_cases hb : b < n
    · have := srRow_pos (lost := lost) (m := m) (hs.2.2 hb) (gbLen_pos hb hw)
      rw [if_pos hb, if_pos hb, srRun_fuel hw (f := f) (g := g) hs.next (by omega) (by omega)]
    · rw [if_neg hb, if_neg hb]
theorem srRun_facts {n w : Nat} {lost : Nat → Bool} (hw : 1 ≤ w) : ∀ {f b m : Nat} {d : Nat → Bool} {L : List Int}, SrAt n b d → srRun n w lost f b d m = some L →
    (∀ x ∈ L, 0 ≤ x ∧ x < n) ∧ (∀ k, k < n → lastF lost d m L k = true) ∧ n + gone lost m L.length = dn d n + L.length
  | 0, b, m, d, L, hs, h => by
    rw [srRun] at h
    by_cases hb : b < n
    · rw [if_pos hb] at h; cases h
    · rw [if_neg hb] at h
      obtain rfl := Option.some.inj h
      exact ⟨fun x hx => (by cases hx), fun k hk => hs.2.1 k (by omega), by rw [dn_all fun k hk => hs.2.1 k (by omega)]; rfl⟩
  | f + 1, b, m, d, L, hs, h => by
    rw [srRun] at h
    by_cases hb : b < n
    · rw [if_pos hb] at h
      by_cases hm : 300 ≤ m
      · rw [if_pos hm] at h; cases h
      · rw [if_neg hm] at h
        cases hr : srRun n w lost f (srUp n (srRow lost b m d (gbLen n w b)).1 n b) (srRow lost b m d (gbLen n w b)).1 (m + (srRow lost b m d (gbLen n w b)).2.length) with
        | none => rw [hr] at h; cases h
        | some R =>
          rw [hr] at h
          obtain rfl := (Option.some.inj h)
          obtain ⟨i1, i2, i3⟩ := srRun_facts hw hs.next hr
          have hl := gbLen_le n w b
          have hc := srRow_count (lost := lost) (m := m) (n := n) (d := d) (b := b) (c := gbLen n w b) (by omega)
          refine ⟨fun x hx => ?_, fun k hk => ?_, ?_⟩
          · rcases List.mem_append.1 hx with hx | hx
            · obtain ⟨k, rfl, _, hk⟩ := srRow_mem x hx; omega
            · exact i1 x hx
          · rw [lastF_app, lastF_row]; exact i2 k hk
          · rw [List.length_append, gone_add]; omega
    · rw [if_neg hb] at h
      obtain rfl := Option.some.inj h
      exact ⟨fun x hx => (by cases hx), fun k hk => hs.2.1 k (by omega), by rw [dn_all fun k hk => hs.2.1 k (by omega)]; rfl⟩
/-- Without losses. -/
theorem srRow_clean {lost : Nat → Bool} (hc : ∀ t, lost t = false) {b m : Nat} {d : Nat → Bool} (hd : ∀ k, d k = decide (k < b)) : ∀ c, (srRow lost b m d c).2 = up b c ∧ ∀ k, (srRow lost b m d c).1 k = decide (k < b + c)
  | 0 => ⟨rfl, hd⟩
  | c + 1 => by
    obtain ⟨h1, h2⟩ := srRow_clean hc hd c
    rw [srRow, if_neg (by rw [h2]; simp)]
    refine ⟨by rw [up, ← h1], fun k => ?_⟩
    show (if k = b + c then !lost _ else (srRow lost b m d c).1 k) = _
    rw [hc, h2]
    by_cases e : k = b + c
    · subst e; simp
    · rw [if_neg e]; congr 1; rw [eq_iff_iff]; omega
theorem srUp_clean {n : Nat} {d : Nat → Bool} {e : Nat} (hd : ∀ k, d k = decide (k < e)) (he : e ≤ n) : ∀ {f b : Nat}, n ≤ b + f → b ≤ e → srUp n d f b = e
  | 0, b, h1, h2 => by rw [srUp]; omega
  | f + 1, b, h1, h2 => by
    rw [srUp]
    by_cases hb : b < e
    · rw [if_pos ⟨by omega, by rw [hd]; simpa using hb⟩, srUp_clean hd he (by omega) (by omega)]
    · rw [if_neg (by rw [hd]; simp; omega)]; omega
theorem srRun_clean {n w : Nat} {lost : Nat → Bool} (hw : 1 ≤ w) (hn : n ≤ 300) (hc : ∀ t, lost t = false) : ∀ {f b m : Nat} {d : Nat → Bool}, (∀ k, d k = decide (k < b)) → n < b + f → m ≤ b → b ≤ n → srRun n w lost f b d m = some (up b (n - b))
  | 0, b, m, d, _, h, _, _ => by omega
  | f + 1, b, m, d, hd, h, hm, hbn => by
    by_cases hb : b < n
    · have hp := gbLen_pos hb hw
      have hl := gbLen_le n w b
      obtain ⟨r1, r2⟩ := srRow_clean hc hd (m := m) (gbLen n w b)
      rw [srRun, if_pos hb, if_neg (by omega), r1, srUp_clean r2 (by omega) (by omega) (by omega), up_len, srRun_clean hw hn hc r2 (by omega) (by omega) (by omega)]
      show some (up b (gbLen n w b) ++ up (b + gbLen n w b) (n - (b + gbLen n w b))) = _
      rw [← up_add]
      congr 2
      omega
    · rw [srRun, if_neg hb, show n - b = 0 by omega]; rfl
/-- What the functions answer. -/
def rpIn (n : Int) : Bool := decide (0 ≤ n) && decide (n ≤ 30)
def wnIn (w : Int) : Bool := decide (1 ≤ w) && decide (w ≤ 8)
def swB (n : Int) (lost un : Nat → Bool) : Bool := rpIn n && decide (n.toNat ≤ swK lost un 300)
def swN (n : Int) (lost un : Nat → Bool) : Nat := swT n.toNat lost un 300
def swL (n : Int) (lost un : Nat → Bool) : List Int := if swB n lost un then (List.range n.toNat).map fun j => (swC lost un (swN n lost un) j : Int) else []
def swM (n : Int) (lost un : Nat → Bool) : Int := if swB n lost un then (swN n lost un : Int) else 0
def gbO (n w : Int) (lost : Nat → Bool) : Option (List Int) := if rpIn n && wnIn w then gbRun n.toNat w.toNat lost 301 0 0 else none
def srO (n w : Int) (lost : Nat → Bool) : Option (List Int) := if rpIn n && wnIn w then srRun n.toNat w.toNat lost 301 0 (fun _ => false) 0 else none
theorem srAt_zero (n : Nat) : SrAt n 0 fun _ => false := ⟨Nat.zero_le _, fun _ hk => absurd hk (Nat.not_lt_zero _), fun _ => rfl⟩
theorem gb_sr_clean {n w : Int} {lost : Nat → Bool} (hc : ∀ t, lost t = false) (h : (rpIn n && wnIn w) = true) : gbO n w lost = some (up 0 n.toNat) ∧ srO n w lost = some (up 0 n.toNat) := by
  have h' := h
  simp only [rpIn, wnIn, Bool.and_eq_true, decide_eq_true_eq] at h'
  unfold gbO srO
  rw [if_pos h, if_pos h, gbRun_clean (by omega) (by omega) hc (by omega) (by omega) (by omega), srRun_clean (by omega) (by omega) hc (fun k => by simp) (by omega) (by omega) (by omega), Nat.sub_zero]
  exact ⟨rfl, rfl⟩
end Go.Proofs.Ytenihedpbklmlaa
