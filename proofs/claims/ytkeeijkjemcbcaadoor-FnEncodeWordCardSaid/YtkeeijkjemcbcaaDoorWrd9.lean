/-
  What the models of WordSyndromes and DecodeWord answer, for every list. Condition: a list that can be read.
-/
import Derived.Test.YtkeeijkjemcbcaaDoorWrd8
import Derived.Test.YtkeeijkjemcbcaaDoorFldSpec
namespace Go.Proofs.YtkeeijkjemcbcaaDoor
open Go.RowKit

theorem newL_nil {w : World} : NewL [] w (.returned (.slice (some ⟨w.heap.size, 0, none⟩) 0 0)) (w.alloc (.cells #[] 3)) := ⟨_, _, _, rfl, Grow.lit0 _ _ _ _ (Nat.le_refl _), below_alloc _ _⟩
theorem Grow.lit4 (w : World) (base a b c d : Nat) (hb : base ≤ w.heap.size) : Grow .i64 3 (w.alloc (.cells #[.int .i64 a, .int .i64 b, .int .i64 c, .int .i64 d] 3)) base (some ⟨w.heap.size, 0, none⟩) 4 4 [(a : Int), b, c, d] :=
  ⟨rfl, .inr ⟨w.heap.size, 4, #[.int .i64 a, .int .i64 b, .int .i64 c, .int .i64 d], rfl, hb, heap_alloc_last _ _, Nat.le_refl _, by unfold maxLen; omega, rfl, rfl⟩⟩
theorem newL_four {w W : World} {a b c d : Nat} (hb : Below w.heap.size w W) : NewL [(a : Int), b, c, d] w (.returned (.slice (some ⟨W.heap.size, 0, none⟩) 4 4)) (W.alloc (.cells #[.int .i64 a, .int .i64 b, .int .i64 c, .int .i64 d] 3)) :=
  ⟨_, _, _, rfl, Grow.lit4 _ _ _ _ _ _ hb.size, hb.alloc hb.size _⟩
set_option maxHeartbeats 400000 in
theorem specWordSyndromes_any (a : Option Addr) (c : Nat) (xs : List Int) (w : World) (hx : Ints .i64 w w.heap.size a xs) (hl : xs.length ≤ 1048576) :
    Calls Tryd.prog 21 #[.slice a xs.length c] w (NewL (synL6 xs) w) := by
  cases hk : wok 15 xs
  · have HV := Lib.hid (l6Symbols_15 a c w.heap.size xs w false hx hl hk)
    have HE := Lib.hid (synL6_no hk)
    clear hx hk
    go_enter Tryd.func21, Tryd.ntmps21
    go_wp2_with (go_at_call 37; refine HV.out.mono ?_; rintro e w' ⟨rfl, rfl⟩)
    go_ret
    rw [HE.out]
    exact newL_nil
  · have HV := Lib.hid (l6Symbols_15 a c w.heap.size xs w true hx hl hk)
    have p0 : polOr xs 2 = (syn6 (co xs) 0 : Int) := syn6_pol hk (k := 0) (z := 2) rfl
    have p1 : polOr xs 4 = (syn6 (co xs) 1 : Int) := syn6_pol hk (k := 1) (z := 4) rfl
    have p2 : polOr xs 8 = (syn6 (co xs) 2 : Int) := syn6_pol hk (k := 2) (z := 8) rfl
    have p3 : polOr xs 3 = (syn6 (co xs) 3 : Int) := syn6_pol hk (k := 3) (z := 3) rfl
    have hp := fun W z (hW : Below w.heap.size w W) => specPolynomialAt_any a c w.heap.size xs z W (hx.below hW)
    have h0 := fun W hW => hp W 2 hW
    have h1 := fun W hW => hp W 4 hW
    have h2 := fun W hW => hp W 8 hW
    have h3 := fun W hW => hp W 3 hW
    have HE := Lib.hid (synL6_yes hk)
    rw [p0] at h0
    rw [p1] at h1
    rw [p2] at h2
    rw [p3] at h3
    have H0 := Lib.hid h0
    have H1 := Lib.hid h1
    have H2 := Lib.hid h2
    have H3 := Lib.hid h3
    clear hx hk p0 p1 p2 p3 hp h0 h1 h2 h3
    generalize syn6 (co xs) 0 = s0 at *
    generalize syn6 (co xs) 1 = s1 at *
    generalize syn6 (co xs) 2 = s2 at *
    generalize syn6 (co xs) 3 = s3 at *
    go_enter Tryd.func21, Tryd.ntmps21
    go_wp2_with (go_at_call 37; refine HV.out.mono ?_; rintro e w' ⟨rfl, rfl⟩)
    refine (H0.out w (Below.refl _ _)).mono ?_
    rintro e w' ⟨rfl, n0, rfl⟩
    have B0 := Lib.hid (below_drewN (Below.refl w.heap.size w) n0)
    generalize w.drewN n0 = w0 at *
    go_wp2_with fail
    refine (H1.out w0 B0.out).mono ?_
    rintro e w' ⟨rfl, n1, rfl⟩
    have B1 := Lib.hid (below_drewN B0.out n1)
    generalize w0.drewN n1 = w1 at *
    go_wp2_with fail
    refine (H2.out w1 B1.out).mono ?_
    rintro e w' ⟨rfl, n2, rfl⟩
    have B2 := Lib.hid (below_drewN B1.out n2)
    generalize w1.drewN n2 = w2 at *
    go_wp2_with fail
    refine (H3.out w2 B2.out).mono ?_
    rintro e w' ⟨rfl, n3, rfl⟩
    have B3 := Lib.hid (below_drewN B2.out n3)
    generalize w2.drewN n3 = w3 at *
    go_wp2
    go_ret
    rw [HE.out]
    exact newL_four B3.out

/-- Whether all numbers are 0. -/
def allZ (xs : List Int) : Bool := xs.all fun x => x == 0
set_option maxHeartbeats 400000 in
theorem l6Zero_any (a : Option Addr) (c B : Nat) (xs : List Int) (w : World) (hx : Ints .i64 w B a xs) (hl : xs.length ≤ 1048576) :
    Calls Tryd.prog 50 #[.slice a xs.length c] w fun e w' => e = .returned (.bool (allZ xs)) ∧ w = w' := by
  have HX := Lib.hid hx
  clear hx
  go_enter Tryd.func50, Tryd.ntmps50
  go_wp2
  go_loop [3] (fun i => ∃ k : Nat, k ≤ xs.length ∧ i = .int .i64 k ∧ (xs.take k).all (fun x => x == 0) = true) (fun i => xs.length - (intOf i).toNat)
  case atStart => exact ⟨0, Nat.zero_le _, rfl, by simp⟩
  case round =>
    obtain ⟨k, hk, rfl, hall⟩ := hrel
    have HA := Lib.hid hall
    clear hall
    by_cases hlt : k < xs.length
    · obtain ⟨b, off, rfl, hb, hc⟩ := HX.out.at_ hlt
      by_cases he : el xs k = 0
      · have z : (el xs k != 0) = false := by simp [he]
        have HN := Lib.hid (all_take_succ (fun x => x == 0) xs k hlt HA.out (by simp [he]))
        clear he
        go_wp2
        go_round
        case rel => exact ⟨k + 1, by omega, by go_num, HN.out⟩
        case measure => simp [intOf]; omega
      · have z : (el xs k != 0) = true := by simp [he]
        have HE := Lib.hid (all_false (fun x => x == 0) xs k hlt (by simp [he]))
        clear he
        go_wp2
        go_ret
        exact ⟨ret_bool HE.out.symm, rfl⟩
    · obtain rfl : xs.length = k := by omega
      have HE := Lib.hid (show allZ xs = true by have := HA.out; rwa [List.take_length] at this)
      go_wp2
      go_ret
      exact ⟨ret_bool HE.out.symm, rfl⟩
end Go.Proofs.YtkeeijkjemcbcaaDoor
