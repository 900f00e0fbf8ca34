/-
  What the draws of chapter 16 leave; facts on what its functions answer. No condition; plain lemmas.
-/
import Derived.Test.YtenihedpbklmlaaRp7
namespace Go.Proofs.Ytenihedpbklmlaa
open Go.RowKit

/-- What the laws draw. -/
def DrawGoP (w : World) (e : Ending) (w' : World) : Prop :=
  ∃ n v ls a c, e = .returned (.tuple #[.int .i64 n, .int .i64 v, .slice a ls.length c]) ∧ ls.length ≤ 320 ∧ Bls w' w'.heap.size a ls ∧ Below w.heap.size w w'
def DrawStP (w : World) (e : Ending) (w' : World) : Prop :=
  ∃ n ls a c us a' c', e = .returned (.tuple #[.int .i64 n, .slice a ls.length c, .slice a' us.length c']) ∧ ls.length ≤ 320 ∧ us.length ≤ 320 ∧ Bls w' w'.heap.size a ls ∧ Bls w' w'.heap.size a' us ∧ Below w.heap.size w w'
theorem bt_nil (i : Nat) : bt [] i = false := rfl
theorem gbLen_8 {n w b : Nat} (hw : w ≤ 8) : gbLen n w b ≤ 8 := by unfold gbLen; omega
theorem gbRun_len {n w : Nat} {lost : Nat → Bool} (hw : w ≤ 8) : ∀ {f b m : Nat} {L : List Int}, gbRun n w lost f b m = some L → m ≤ 330 → m + L.length ≤ 330
  | f, b, m, L, h, hm => by
    by_cases hb : b < n
    · obtain ⟨g, R, rfl, h3, hr, rfl⟩ := gbRun_step hb h
      have h8 := gbLen_8 (n := n) (w := w) (b := b) hw
      have := gbRun_len hw hr (by omega)
      rw [List.length_append, up_len]; omega
    · rw [gbRun_end hb h]; exact hm
theorem srRun_len {n w : Nat} {lost : Nat → Bool} (hw : w ≤ 8) : ∀ {f b m : Nat} {d : Nat → Bool} {L : List Int}, srRun n w lost f b d m = some L → m ≤ 330 → m + L.length ≤ 330
  | 0, b, m, d, L, h, hm => by
    rw [srRun] at h
    split at h
    · cases h
    · obtain rfl := Option.some.inj h; exact hm
  | f + 1, b, m, d, L, h, hm => by
    rw [srRun] at h
    split at h
    · split at h
      · cases h
      · next h3 =>
        cases hr : srRun n w lost f (srUp n (srRow lost b m d (gbLen n w b)).1 n b) (srRow lost b m d (gbLen n w b)).1 (m + (srRow lost b m d (gbLen n w b)).2.length) with
        | none => rw [hr] at h; cases h
        | some R =>
          rw [hr] at h
          obtain rfl := Option.some.inj h
          have h8 := gbLen_8 (n := n) (w := w) (b := b) hw
          have h9 := srRow_len2 lost b m d (gbLen n w b)
          have := srRun_len hw hr (by omega)
          rw [List.length_append]; omega
    · obtain rfl := Option.some.inj h; exact hm
theorem gbO_case {n v : Int} {lost : Nat → Bool} {L : List Int} (h : gbO n v lost = some L) : ∃ N V : Nat, n = (N : Int) ∧ v = (V : Int) ∧ N ≤ 30 ∧ 1 ≤ V ∧ V ≤ 8 ∧ (rpIn n && wnIn v) = true ∧ gbRun N V lost 301 0 0 = some L := by
  unfold gbO at h
  split at h
  · next hok =>
    obtain ⟨h1, h2⟩ : rpIn n = true ∧ wnIn v = true := by simpa using hok
    obtain ⟨N, rfl, hN⟩ := rpIn_nat h1
    obtain ⟨V, rfl, h3, h4⟩ := wnIn_nat h2
    exact ⟨N, V, rfl, rfl, hN, h3, h4, hok, h⟩
  · cases h
theorem srO_case {n v : Int} {lost : Nat → Bool} {L : List Int} (h : srO n v lost = some L) : ∃ N V : Nat, n = (N : Int) ∧ v = (V : Int) ∧ N ≤ 30 ∧ 1 ≤ V ∧ V ≤ 8 ∧ (rpIn n && wnIn v) = true ∧ srRun N V lost 301 0 (fun _ => false) 0 = some L := by
  unfold srO at h
  split at h
  · next hok =>
    obtain ⟨h1, h2⟩ : rpIn n = true ∧ wnIn v = true := by simpa using hok
    obtain ⟨N, rfl, hN⟩ := rpIn_nat h1
    obtain ⟨V, rfl, h3, h4⟩ := wnIn_nat h2
    exact ⟨N, V, rfl, rfl, hN, h3, h4, hok, h⟩
  · cases h
theorem gbO_len {n v : Int} {lost : Nat → Bool} : (optL (gbO n v lost)).length ≤ 330 := by
  cases h : gbO n v lost with
  | none => exact Nat.zero_le _
  | some L =>
    obtain ⟨N, V, _, _, _, _, h8, _, hr⟩ := gbO_case h
    have := gbRun_len h8 hr (by omega)
    show L.length ≤ 330
    omega
theorem srO_len {n v : Int} {lost : Nat → Bool} : (optL (srO n v lost)).length ≤ 330 := by
  cases h : srO n v lost with
  | none => exact Nat.zero_le _
  | some L =>
    obtain ⟨N, V, _, _, _, _, h8, _, hr⟩ := srO_case h
    have := srRun_len h8 hr (by omega)
    show L.length ≤ 330
    omega
/-- Losses beyond the list's end are none. -/
theorem gone_min (ls : List Bool) (t : Nat) : ∀ m, gone (bt ls) 0 (t + m) = gone (bt ls) 0 t ∨ t < ls.length
  | 0 => .inl rfl
  | m + 1 => by
    rcases gone_min ls t m with h | h
    · by_cases e : t < ls.length
      · exact .inr e
      · refine .inl ?_
        show gone (bt ls) 0 (t + m) + (bt ls (0 + (t + m))).toNat = _
        rw [h, bt_ge (by omega)]; rfl
    · exact .inr h
theorem gone_next (lost : Nat → Bool) (k : Nat) : gone lost 0 (k + 1) = gone lost 0 k + (lost k).toNat := by
  show gone lost 0 k + (lost (0 + k)).toNat = _
  rw [Nat.zero_add]
theorem gone_le (lost : Nat → Bool) : ∀ k, gone lost 0 k ≤ k
  | 0 => Nat.le_refl _
  | k + 1 => by
    have := gone_le lost k
    rw [gone_next]
    cases lost k
    · simp; omega
    · simp; omega
/-- Where a count over a list of losses stops. -/
theorem gone_stop {ls : List Bool} {k m : Nat} (hk : k ≤ m) (h : ¬ (k < m ∧ k < ls.length)) : gone (bt ls) 0 k = gone (bt ls) 0 m := by
  by_cases e : k < m
  · rcases gone_min ls k (m - k) with h2 | h2
    · rw [← h2, show k + (m - k) = m by omega]
    · exact absurd ⟨e, h2⟩ h
  · rw [show k = m by omega]
end Go.Proofs.Ytenihedpbklmlaa
