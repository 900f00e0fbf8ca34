/-
  What the row of a place, the greatest number of a list and BurstSpread answer. Conditions: the table has at most 1,024 rows and columns and the place is one of it, where a row is computed; the list is not empty.
-/
import Derived.Test.YtmhngakfjlkchaaIlv1
import Derived.Deep.RegionLaw
namespace Go.Proofs.Ytmhngakfjlkchaa
open Go.RowKit

set_option maxHeartbeats 1000000 in
theorem rowOf_any (R C k : Nat) (w : World) (hR : 1 ≤ R) (hR2 : R ≤ 1024) (hC1 : 1 ≤ C) (hC : C ≤ 1024) (hk : k ≤ 1024) (hlt : k < R * C) :
    Calls Try.prog 36 #[.agg #[.int .i64 (R : Int), .int .i64 (C : Int)], .int .i64 (k : Int)] w fun e w' => e = .returned (.int .i64 ((k % R : Nat) : Int)) ∧ Below w.heap.size w w' := by
  obtain ⟨p, hp⟩ : ∃ p, p = pm8 R C k := ⟨_, rfl⟩
  obtain ⟨q, hq⟩ : ∃ q, q = k % R := ⟨_, rfl⟩
  have hpq : p / C = q := by rw [hp, hq]; exact pm8_div hlt
  have hq1 : q ≤ 4194304 := by
    have : k % R < R := Nat.mod_lt _ hR
    omega
  have HW := Lib.hid (fun W => writtenAt_any R C k W hR hR2 hC hk)
  rw [← hp] at HW
  have hz0 : ¬ C = 0 := by omega
  have hz : ((C : Int) == 0) = false := by rw [beq_eq_false_iff_ne]; omega
  have r3 : IntKind.i64.wrap ((p : Int).tdiv (C : Int)) = (q : Int) := by
    rw [Int.tdiv_eq_ediv_of_nonneg (Int.natCast_nonneg _), show (p : Int) / (C : Int) = ((p / C : Nat) : Int) from rfl, hpq]; exact wrap8 hq1
  have r3' : wrap64 ((p : Int) / (C : Int)) = (q : Int) := by
    rw [show (p : Int) / (C : Int) = ((p / C : Nat) : Int) from rfl, hpq]; exact wrap8' hq1
  have r3'' : IntKind.i64.wrap ((p : Int) / (C : Int)) = (q : Int) := by
    rw [show (p : Int) / (C : Int) = ((p / C : Nat) : Int) from rfl, hpq]; exact wrap8 hq1
  have hal := (Below.refl w.heap.size w).alloc (Nat.le_refl _) (.cells #[.int .i64 (R : Int), .int .i64 (C : Int)] 43)
  have HA := Lib.hid hal
  have hT : w.heap.size < (w.alloc (.cells #[.int .i64 (R : Int), .int .i64 (C : Int)] 43)).heap.size := by simp
  have hg := heap_alloc_last w (.cells #[.int .i64 (R : Int), .int .i64 (C : Int)] 43)
  have c0 := cell_of_row _ w.heap.size 0 _ _ _ hg
  have c1 := cell_of_row _ w.heap.size 1 _ _ _ hg
  rw [← hq]
  clear hp hq hpq hq1 hR hR2 hC1 hC hk hlt hal
  go_enter Try.func36, Try.ntmps36
  go_wp2_with fail
  generalize w.alloc (.cells #[.int .i64 (R : Int), .int .i64 (C : Int)] 43) = W0 at *
  have C1 := Lib.hid c1
  clear hg
  go_region_law (first | (go_simp; go_at_call 29; refine (HW.out _).mono ?_; rintro e w2 ⟨rfl, b2⟩; have B2 := Lib.hid b2; have k2 := (b2.cell (p := ⟨w.heap.size, 1, none⟩) hT).trans C1.out; clear b2))
  all_goals
    go_wp2
    go_ret
    exact ⟨rfl, Below.next (w' := W0.drew) HA.out.drew (Nat.le_refl _) B2.out⟩

/-- The greatest number of a list that is not empty: it is one of them and at least all of them. -/
def IsMax (xs : List Int) (m : Int) : Prop := (∃ i, i < xs.length ∧ el xs i = m) ∧ ∀ i, i < xs.length → el xs i ≤ m
theorem max_step8 {xs : List Int} {k : Nat} {m : Int} (h1 : ∃ j, j < k ∧ el xs j = m) (h2 : ∀ j, j < k → el xs j ≤ m) :
    (∃ j, j < k + 1 ∧ el xs j = if m < el xs k then el xs k else m) ∧ ∀ j, j < k + 1 → el xs j ≤ if m < el xs k then el xs k else m := by
  obtain ⟨j0, hj0, he⟩ := h1
  by_cases h : m < el xs k
  · rw [if_pos h]
    refine ⟨⟨k, by omega, rfl⟩, fun j hj => ?_⟩
    by_cases e : j = k
    · rw [e]; exact Int.le_refl _
    · have := h2 j (by omega); omega
  · rw [if_neg h]
    refine ⟨⟨j0, by omega, he⟩, fun j hj => ?_⟩
    by_cases e : j = k
    · rw [e]; omega
    · exact h2 j (by omega)
theorem IsMax.eq {xs : List Int} {m n : Int} (h : IsMax xs m) (h1 : ∃ i, i < xs.length ∧ el xs i = n) (h2 : ∀ i, i < xs.length → el xs i ≤ n) : m = n := by
  obtain ⟨⟨i, hi, e1⟩, a1⟩ := h
  obtain ⟨j, hj, e2⟩ := h1
  have := a1 j hj
  have := h2 i hi
  omega
set_option maxHeartbeats 1000000 in
theorem slicesMax_any (a : Option Addr) (B c : Nat) (xs : List Int) (w : World) (hx : Ints .i64 w B a xs) (h0 : 0 < xs.length) (hl : xs.length ≤ 1048576) :
    Calls Try.prog 37 #[.slice a xs.length c] w fun e w' => (∃ m, IsMax xs m ∧ e = .returned (.int .i64 m)) ∧ ∃ n, w' = w.drewN n := by
  obtain ⟨b, off, rfl, hb, hc⟩ := hx.at_ h0
  have HX := Lib.hid hx
  have hlt1 : ¬ xs.length < 1 := by omega
  rw [Nat.add_zero] at hc
  clear hx
  go_enter Try.func37, Try.ntmps37
  go_wp2
  go_loopw [3, 4] (fun s i wr => ∃ (k n : Nat) (m : Int), (1 ≤ k ∧ k ≤ xs.length) ∧ i = .int .i64 k ∧ s = .int .i64 m ∧ (∃ j, j < k ∧ el xs j = m) ∧ (∀ j, j < k → el xs j ≤ m) ∧ wr = w.drewN n) (fun _ i _ => xs.length - (intOf i).toNat)
  case atStart => exact ⟨1, 0, _, ⟨Nat.le_refl _, h0⟩, rfl, rfl, ⟨0, by omega, rfl⟩, fun j hj => by rw [show j = 0 by omega]; exact Int.le_refl _, rfl⟩
  case round =>
    obtain ⟨k, n, m, ⟨hk1, hk⟩, rfl, rfl, hm1, hm2, rfl⟩ := hrel
    have HM1 := Lib.hid hm1
    have HM2 := Lib.hid hm2
    clear hm1 hm2
    by_cases hlt : k < xs.length
    · obtain ⟨b', off', e, hb', hck⟩ := (HX.out.drewN n).at_ hlt
      injection e with e
      injection e with e1 e2
      subst e1 e2
      have HS := Lib.hid (max_step8 HM1.out HM2.out)
      clear hc hlt1
      go_wp2
      go_roundw
      case rel => exact ⟨k + 1, n, _, ⟨by omega, by omega⟩, by go_num, rfl, HS.out.1, HS.out.2, rfl⟩
      case measure => simp [intOf]; omega
    · have HK := Lib.hid (show k = xs.length by omega)
      clear hc hlt1
      go_wp2
      go_ret
      exact ⟨⟨m, ⟨by rw [← HK.out]; exact HM1.out, by rw [← HK.out]; exact HM2.out⟩, rfl⟩, n, rfl⟩

/-- The counts of 32 rows. -/
def cnts8 (R A m : Nat) : List Int := (List.range 32).map fun j => ((cr8 R A j m : Nat) : Int)
theorem cnts8_length (R A m : Nat) : (cnts8 R A m).length = 32 := by simp [cnts8]
theorem cnts8_el {R A m j : Nat} (h : j < 32) : el (cnts8 R A m) j = ((cr8 R A j m : Nat) : Int) := by simp [cnts8, el, h]
theorem cnts8_max {R A M : Nat} (h1 : 1 ≤ R) (h2 : R ≤ 32) {m : Int} (h : IsMax (cnts8 R A M) m) : m = ((up8 R M : Nat) : Int) := by
  refine h.eq ?_ fun i hi => ?_
  · have hA : A % R < 32 := by have : A % R < R := Nat.mod_lt _ h1; omega
    exact ⟨A % R, by rw [cnts8_length]; exact hA, by rw [cnts8_el hA, cr8_first h1]⟩
  · rw [cnts8_length] at hi
    rw [cnts8_el hi]
    by_cases hr : i < R
    · have := cr8_le hr A M; omega
    · rw [cr8_far h1 (by omega)]; omega
end Go.Proofs.Ytmhngakfjlkchaa
