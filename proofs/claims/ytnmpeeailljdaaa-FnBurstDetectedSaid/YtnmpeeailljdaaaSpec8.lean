/-
  What the model's BurstDetected answers, for all arguments. Condition: a list is no longer than a list can be.
-/
import Derived.Test.YtnmpeeailljdaaaSpec7
namespace Go.Proofs.Ytnmpeeailljdaaa
open Go.RowKit

/-- The list with the first k bits of the burst added from place i on. -/
def hitF (xs bs : List Int) (i k j : Nat) : Int := if i ≤ j ∧ j < i + k then (if el xs j = el bs (j - i) then 0 else 1) else el xs j
theorem hit_zero (xs bs : List Int) (i j : Nat) : hitF xs bs i 0 j = el xs j := by
  unfold hitF; rw [if_neg (by omega)]
theorem hit_old (xs bs : List Int) (i k : Nat) : hitF xs bs i k (i + k) = el xs (i + k) := by
  unfold hitF; rw [if_neg (by omega)]
theorem hit_new (xs bs : List Int) (i k : Nat) : hitF xs bs i (k + 1) (i + k) = if el xs (i + k) = el bs k then 0 else 1 := by
  unfold hitF; rw [if_pos (by omega), show i + k - i = k by omega]
theorem hit_other (xs bs : List Int) (i k j : Nat) (h : j ≠ i + k) : hitF xs bs i (k + 1) j = hitF xs bs i k j := by
  unfold hitF
  by_cases h1 : i ≤ j ∧ j < i + k
  · rw [if_pos (by omega), if_pos h1]
  · rw [if_neg (by omega), if_neg h1]
theorem damage_el {n i : Nat} {bs : List Int} (j : Nat) : el (damage n i bs) j = if i ≤ j ∧ j < i + bs.length then el bs (j - i) else 0 := by
  unfold damage
  by_cases h1 : j < i
  · rw [el_append_left (by rw [List.length_append, zeros_length]; omega), el_append_left (by rw [zeros_length]; exact h1), zeros_el, if_neg (by omega)]
  · by_cases h2 : j < i + bs.length
    · rw [el_append_left (by rw [List.length_append, zeros_length]; omega), if_pos (by omega)]
      obtain ⟨q, rfl⟩ : ∃ q, j = i + q := ⟨j - i, by omega⟩
      have := el_append_right (xs := zeros i) (ys := bs) (j := q)
      rw [zeros_length] at this
      rw [this, show i + q - i = q by omega]
    · obtain ⟨q, rfl⟩ : ∃ q, j = (i + bs.length) + q := ⟨j - (i + bs.length), by omega⟩
      have := el_append_right (xs := zeros i ++ bs) (ys := zeros (n - i - bs.length)) (j := q)
      rw [List.length_append, zeros_length] at this
      rw [this, zeros_el, if_neg (by omega)]
theorem hit_all {xs bs : List Int} {i : Nat} (h1 : bitsOk xs = true) (h2 : bitsOk bs = true) {j : Nat} (hj : j < xs.length) : hitF xs bs i bs.length j = el (sumBits xs (damage xs.length i bs)) j := by
  rw [sumBits_el _ _ _ hj, xorF_at hj, damage_el]
  unfold hitF
  by_cases h : i ≤ j ∧ j < i + bs.length
  · rw [if_pos h, if_pos h]
    rcases bit_cases h1 hj with e | e <;> rcases bit_cases h2 (k := j - i) (by omega) with e2 | e2 <;> simp [e, e2]
  · rw [if_neg h, if_neg h]
    rcases bit_cases h1 hj with e | e <;> simp [e]
theorem xor_hit {x y : Int} (hx : x = 0 ∨ x = 1) (hy : y = 0 ∨ y = 1) : bits .xor .i64 x y = if x = y then 0 else 1 := by
  rcases hx with rfl | rfl <;> rcases hy with rfl | rfl <;> simp [xor00, xor01, xor10, xor11]
def HitRel (xs bs : List Int) (i b cap : Nat) (f : Nat → Value) (w : World) (k : Nat) (wr : World) : Prop :=
  wr.rowIs b 3 cap (fun j => if j < xs.length then .int .i64 (hitF xs bs i k j) else f j) ∧ Below w.heap.size w wr
theorem hitRel_step {xs bs : List Int} {i b cap : Nat} {f : Nat → Value} {w wr : World} {k : Nat} (h : HitRel xs bs i b cap f w k wr) (hb : w.heap.size ≤ b) (hk : i + k < xs.length) :
    HitRel xs bs i b cap f w (k + 1) (wr.drew.setCell ⟨b, i + k, none⟩ (.int .i64 (if el xs (i + k) = el bs k then 0 else 1))) := by
  refine ⟨?_, Below.setCell h.2.drew hb _⟩
  have h1 : wr.drew.rowIs b 3 cap (fun j => if j < xs.length then .int .i64 (hitF xs bs i k j) else f j) := h.1
  refine (h1.set (i + k) _).congr fun j _ => ?_
  by_cases e : j = i + k
  · subst e; simp only [if_true, hk, hit_new]
  · simp only [e, if_false, hit_other _ _ _ _ _ e]
set_option maxHeartbeats 1000000 in
theorem specBurst_any (a a' : Option Addr) (c c' : Nat) (xs bs : List Int) (g i : Int) (w : World) (hx : Ints .i64 w w.heap.size a xs) (hy : Ints .i64 w w.heap.size a' bs) (hl : xs.length ≤ maxLen) (hl' : bs.length ≤ maxLen) :
    Calls Try.prog 38 #[.slice a xs.length c, .int .i64 g, .int .i64 i, .slice a' bs.length c'] w fun e w' => e = .returned (.bool (burstB g xs i bs)) ∧ Below w.heap.size w w' := by
  have hp := specCheckPasses_any a c w.heap.size xs g w hx hl
  have hv := specBitsValid_any a' c' w.heap.size bs w hy hl'
  have HX := Lib.hid hx
  have HY := Lib.hid hy
  unfold maxLen at hl hl'
  clear hx hy
  cases h1 : passes g xs
  · rw [h1] at hp
    have HE := Lib.hid (show burstB g xs i bs = false by simp [burstB, burstIn, h1])
    have HP := Lib.hid hp
    clear hp hv h1
    go_enter Try.func38, Try.ntmps38
    go_wp2_with (go_at_call 35; ((with_reducible refine HP.out.mono ?_); rintro e w' ⟨rfl, rfl⟩))
    go_ret
    exact ⟨ret_bool HE.out.symm, Below.refl _ _⟩
  · obtain ⟨p1, p2, p3, p4⟩ := passes_parts h1
    rw [h1] at hp
    have HP := Lib.hid hp
    clear hp
    have hxl := bitsOk_length p1
    cases h2 : bitsOk bs
    · rw [h2] at hv
      have HE := Lib.hid (show burstB g xs i bs = false by simp [burstB, burstIn, h2])
      have HV := Lib.hid hv
      clear hv h1 h2 p1 p2 p3 p4
      go_enter Try.func38, Try.ntmps38
      go_wp2_with (first | (go_at_call 35; ((with_reducible refine HP.out.mono ?_); rintro e w' ⟨rfl, rfl⟩)) | (go_at_call 55; ((with_reducible refine HV.out.mono ?_); rintro e w' ⟨rfl, rfl⟩)))
      go_ret
      exact ⟨ret_bool HE.out.symm, Below.refl _ _⟩
    · rw [h2] at hv
      have HV := Lib.hid hv
      have hbl := bitsOk_length h2
      clear hv
      have hin := l1In_any i 0 ((xs.length : Int) - (bs.length : Int)) w
      by_cases h3 : 0 ≤ i ∧ i ≤ (xs.length : Int) - (bs.length : Int)
      · obtain ⟨k, rfl⟩ := Int.eq_ofNat_of_zero_le h3.1
        have hk : k + bs.length ≤ xs.length := by omega
        have HE : Hid (burstB g xs (k : Int) bs = !passes g (sumBits xs (damage xs.length k bs))) := by
          show _ = _
          simp [burstB, burstIn, h1, h2, h3]
        rw [show (decide ((0 : Int) ≤ (k : Int)) && decide ((k : Int) ≤ (xs.length : Int) - (bs.length : Int))) = true by simp [h3]] at hin
        have HIn := Lib.hid hin
        have hpos : 1 ≤ xs.length := by have := (deg_lt p2).1; omega
        have HAl := Lib.hid (fun o : Obj => (Below.refl w.heap.size w).alloc (Nat.le_refl _) o)
        have HXa := Lib.hid (HX.out.below (HAl.out (.cells #[] 3)))
        have HA1 := Lib.hid (fun j (hj : j < xs.length) => hit_all (i := k) p1 h2 hj)
        have HBx := Lib.hid (fun j (hj : j < xs.length) => bit_cases p1 hj)
        have HBb := Lib.hid (fun j (hj : j < bs.length) => bit_cases h2 hj)
        clear h1 h2 h3 p1 p2 p3 p4 hin
        go_enter Try.func38, Try.ntmps38
        go_wp2_with (first
          | (go_at_call 35; ((with_reducible refine HP.out.mono ?_); rintro e w' ⟨rfl, rfl⟩))
          | (go_at_call 55; ((with_reducible refine HV.out.mono ?_); rintro e w' ⟨rfl, rfl⟩))
          | (go_at_call 46; ((with_reducible refine HIn.out.mono ?_); rintro e w' ⟨rfl, rfl⟩))
          | (at_builtin; refine wpList_appendA (.tmp 30) (.tmp 31) w.heap.size (some ⟨w.heap.size, 0, none⟩) a 0 0 xs.length c w.heap.size [] xs rfl rfl rfl rfl (Grow.lit0 _ _ _ _ (Nat.le_refl _)) HXa.out rfl (by omega) (by simp) ?_; intro a3 cap3 w3 hg3 hb3 hnn3; rw [Nat.zero_add, List.nil_append] at hg3; have HG3 := Lib.hid hg3; have HB3 := Lib.hid ((HAl.out _).trans hb3); have hs3 : w.heap.size ≤ w3.heap.size := Nat.le_trans (by simp) hb3.size; clear hg3 hb3 hnn3))
        obtain ⟨b, f, rfl, hbw, hbs, hnc, hrow, hf⟩ := HG3.out.row (by omega)
        have HR3 : Hid (HitRel xs bs k b cap3 f w 0 w3) := ⟨hrow.congr fun j _ => by
          by_cases hj : j < xs.length
          · simp only [hj, if_true, hit_zero]; exact hf j hj
          · simp only [hj, if_false], HB3.out⟩
        clear hrow hf HG3
        go_loopw [10] (fun s wr => ∃ q : Nat, q ≤ bs.length ∧ s = .int .i64 q ∧ HitRel xs bs k b cap3 f w q wr) (fun s _ => bs.length - (intOf s).toNat)
        case atStart => exact ⟨0, Nat.zero_le _, rfl, HR3.out⟩
        case round =>
          obtain ⟨q, hq, rfl, hrel⟩ := hrel
          have HRl := Lib.hid hrel
          by_cases hlt : q < bs.length
          · have hc1 : wr.cell? ⟨b, k + q, none⟩ = some (.int .i64 (el xs (k + q))) := by
              rw [hrel.1.cell (by omega), if_pos (show k + q < xs.length by omega), hit_old]
            have hfz := hrel.1.frozen (k + q)
            obtain ⟨b2, off2, rfl, hb2, hc2⟩ := (HY.out.below hrel.2).at_ hlt
            have hne : b2 ≠ b := by omega
            have HN := Lib.hid (hitRel_step HRl.out hbw (show k + q < xs.length by omega))
            have hxx := xor_hit (HBx.out (k + q) (by omega)) (HBb.out q hlt)
            obtain ⟨D, hD⟩ : ∃ D : Int, D = if el xs (k + q) = el bs q then 0 else 1 := ⟨_, rfl⟩
            rw [← hD] at HN hxx
            obtain ⟨p, hp⟩ : ∃ p, p = k + q := ⟨_, rfl⟩
            rw [← hp] at hc1 hfz HN hxx
            have r1 : IntKind.i64.wrap ((k : Int) + (q : Int)) = (p : Int) := by rw [IntKind.wrap_i64, hp]; omega
            have hpc : p < xs.length := by omega
            clear hrel hD hp
            go_wp2
            go_region
            all_goals
              go_wp2
              go_roundw
              case rel => exact ⟨q + 1, by omega, by go_num, HN.out⟩
              case measure => simp [intOf]; omega
          · obtain rfl : bs.length = q := by omega
            have HI : Hid (Ints .i64 wr wr.heap.size (some ⟨b, 0, none⟩) (sumBits xs (damage xs.length k bs))) := fun _ =>
              ⟨b, 0, rfl, hrel.1.lt, fun j hj => by
                rw [sumBits_length] at hj
                rw [Nat.zero_add, hrel.1.cell (by omega), if_pos hj, HA1.out j hj]⟩
            have hcp := specCheckPasses_any (some ⟨b, 0, none⟩) cap3 wr.heap.size (sumBits xs (damage xs.length k bs)) g wr HI.out (by rw [sumBits_length]; unfold maxLen; omega)
            rw [sumBits_length] at hcp
            have HCP := Lib.hid hcp
            have HBe := Lib.hid hrel.2
            clear hcp hrel
            generalize passes g (sumBits xs (damage xs.length k bs)) = R at *
            go_wp2_with (go_at_call 35; ((with_reducible refine HCP.out.mono ?_); rintro e w' ⟨rfl, rfl⟩))
            go_ret
            exact ⟨ret_bool HE.out.symm, HBe.out⟩
      · have HE : Hid (burstB g xs i bs = false) := by
          show _ = _
          simp only [burstB, burstIn]
          by_cases h0 : 0 ≤ i
          · have h4 : ¬ i ≤ (xs.length : Int) - (bs.length : Int) := fun h => h3 ⟨h0, h⟩
            simp [h4]
          · simp [h0]
        rw [show (decide ((0 : Int) ≤ i) && decide (i ≤ (xs.length : Int) - (bs.length : Int))) = false by
          rw [Bool.eq_false_iff]; intro h; simp at h; exact h3 h] at hin
        have HIn := Lib.hid hin
        clear h1 h2 p1 p2 p3 p4 hin h3
        go_enter Try.func38, Try.ntmps38
        go_wp2_with (first
          | (go_at_call 35; ((with_reducible refine HP.out.mono ?_); rintro e w' ⟨rfl, rfl⟩))
          | (go_at_call 55; ((with_reducible refine HV.out.mono ?_); rintro e w' ⟨rfl, rfl⟩))
          | (go_at_call 46; ((with_reducible refine HIn.out.mono ?_); rintro e w' ⟨rfl, rfl⟩)))
        go_ret
        exact ⟨ret_bool HE.out.symm, Below.refl _ _⟩
end Go.Proofs.Ytnmpeeailljdaaa
