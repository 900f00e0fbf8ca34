/-
  The laws of going back and of selective repetition without losses, walked: they return true for every list of bytes. Condition: bytes that can be read.
-/
import Derived.Test.YtenihedpbklmlaaRpDraw2
import Derived.Test.YtenihedpbklmlaaLawMath
namespace Go.Proofs.Ytenihedpbklmlaa
open Go.RowKit

theorem aliveA_fromR {w W : World} (hB : Below w.heap.size w W) : Calls Try.prog 17 #[] W fun e w' => e = .returned (.bool true) ∧ Below w.heap.size w w' := (alive_any W).mono fun _ _ ⟨h1, h2⟩ => ⟨h1, Below.next hB (Nat.le_refl _) h2⟩
theorem pair_ints {L : List Int} {v : Value} {w w' : World} {e : Ending} (h : PairP L v w e w') : ∃ a c, e = .returned (.tuple #[.slice a L.length c, v]) ∧ Ints .i64 w' w'.heap.size a L ∧ Below w.heap.size w w' := by
  obtain ⟨a, c, h1, _, h3, h4⟩ := h
  exact ⟨a, c, h1, (own_of_list h3).ints, h4⟩
/-- Both protocols without losses. -/
theorem clean_both (n v : Int) : ∃ o : Option (List Int), gbO n v (bt []) = o ∧ srO n v (bt []) = o ∧ (optL o).length ≤ 330 ∧ ∀ k, k < (optL o).length → el (optL o) k = (k : Int) := by
  cases h : rpIn n && wnIn v
  · exact ⟨none, gbO_no h, srO_no h, Nat.zero_le _, fun k hk => absurd hk (Nat.not_lt_zero _)⟩
  · obtain ⟨h1, h2⟩ := gb_sr_clean (lost := bt []) bt_nil h
    have h3 := gbO_len (n := n) (v := v) (lost := bt [])
    refine ⟨_, h1, h2, by rw [← h1]; exact h3, fun k hk => ?_⟩
    change k < (up 0 n.toNat).length at hk
    show el (up 0 n.toNat) k = _
    rw [up_len] at hk
    rw [up_el hk, Nat.zero_add]
set_option maxRecDepth 100000 in
set_option maxHeartbeats 8000000 in
theorem walkGoSelect (a : Option Addr) (c : Nat) (ds : List Int) (w : World) (hx : Ints .u8 w w.heap.size a ds) (hw : ∀ n ∈ ds, (Lit.int .u8 n).wf = true) (hc : ds.length ≤ c) (hcm : c ≤ maxLen) :
    Calls Try.prog 9 #[.slice a ds.length c] w fun e w' => e = .returned (.bool true) ∧ Below w.heap.size w w' := by
  have hb := isByte_of_wf hw
  clear hw
  by_cases hl : ds.length ≤ 1048576
  · go_enter Try.func9, Try.ntmps9
    go_wp2_with fail
    refine (drawGoBack_any a c ds w hx hb hc hcm).mono ?_
    rintro e w1 ⟨n, v, ls, al, cl, rfl, _, _, bl⟩
    have B1 := Lib.hid bl
    clear hx hb hc hcm bl hl
    obtain ⟨o, ho1, ho2, hol, hoe⟩ := clean_both n v
    obtain ⟨X, hX⟩ : ∃ X, X = optL o := ⟨_, rfl⟩
    obtain ⟨b, hbb⟩ : ∃ b, b = o.isSome := ⟨_, rfl⟩
    rw [← hX] at hol hoe
    have HEl := Lib.hid hoe
    have HXb := Lib.hid (And.intro hX hbb)
    have HO1 := Lib.hid ho1
    have HO2 := Lib.hid ho2
    have z1 : decide (X = X) = true := by simp
    have z2 : (b != b) = false := by simp
    clear ho1 ho2 hoe hX hbb
    go_wp2_with fail
    refine (goBack_any n v none 0 [] w1 Bls.nil).mono ?_
    unfold OptP
    rw [HO1.out, ← HXb.out.1, ← HXb.out.2]
    intro e w2 h2
    obtain ⟨g2, cg2, rfl, i2, b2⟩ := pair_ints h2
    have G2 := Lib.hid i2
    have B2 := Lib.hid (Below.next B1.out (Nat.le_refl _) b2)
    clear h2 i2 b2 B1
    go_wp2_with fail
    refine (selectRepeat_any n v none 0 [] w2 Bls.nil).mono ?_
    unfold OptP
    rw [HO2.out, ← HXb.out.1, ← HXb.out.2]
    intro e w3 h3
    obtain ⟨g3, cg3, rfl, i3, b3⟩ := pair_ints h3
    have G3 := Lib.hid i3
    have G2' := Lib.hid (G2.out.next b3)
    have B3 := Lib.hid (Below.next B2.out (Nat.le_refl _) b3)
    clear h3 i3 b3 B2 G2
    go_wp2_with fail
    refine (specGoBack_any n v none 0 [] w3 Bls.nil).mono ?_
    unfold OptP
    rw [HO1.out, ← HXb.out.1, ← HXb.out.2]
    intro e w4 h4
    obtain ⟨g4, cg4, rfl, i4, b4⟩ := pair_ints h4
    have G4 := Lib.hid i4
    have G3' := Lib.hid (G3.out.next b4)
    have G2'' := Lib.hid (G2'.out.next b4)
    have B4 := Lib.hid (Below.next B3.out (Nat.le_refl _) b4)
    clear h4 i4 b4 B3 G2' G3
    go_wp2_with fail
    refine (sameInts_any g2 g3 cg2 cg3 w4.heap.size w4.heap.size X X w4 G2''.out G3'.out (by omega)).mono ?_
    rintro e w5 ⟨rfl, n5, rfl⟩
    have B5 := Lib.hid (below_drewN B4.out n5)
    have G25 := Lib.hid (G2''.out.drewN n5)
    have G45 := Lib.hid (G4.out.drewN n5)
    clear B4 G2'' G3' G4
    generalize hw5 : w4.drewN n5 = w5 at B5 ⊢
    have hs5 : w4.heap.size = w5.heap.size := by rw [← hw5]; rfl
    rw [hw5, hs5] at G25 G45
    clear hw5 hs5
    go_wp2_with fail
    refine (sameInts_any g2 g4 cg2 cg4 w5.heap.size w5.heap.size X X w5 G25.out G45.out (by omega)).mono ?_
    rintro e w6 ⟨rfl, n6, rfl⟩
    have B6 := Lib.hid (below_drewN B5.out n6)
    have G26 := Lib.hid (G25.out.drewN n6)
    clear B5 G25 G45
    generalize hw6 : w5.drewN n6 = w6 at B6 ⊢
    have hs6 : w5.heap.size = w6.heap.size := by rw [← hw6]; rfl
    rw [hw6, hs6] at G26
    clear hw6 hs6
    go_wp2
    clear z1 z2
    go_loop [12] (fun i => ∃ k : Nat, k ≤ X.length ∧ i = .int .i64 k) (fun i => X.length - (intOf i).toNat)
    case atStart => exact ⟨0, Nat.zero_le _, rfl⟩
    case round =>
      obtain ⟨k, hk, rfl⟩ := hrel
      by_cases hlt : k < X.length
      · obtain ⟨bb, off, rfl, hb', hc'⟩ := G26.out.at_ hlt
        rw [HEl.out k hlt] at hc'
        have z3 : ((k : Int) != (k : Int)) = false := by simp
        go_wp2
        go_round
        case rel => exact ⟨k + 1, by omega, by go_num⟩
        case measure => simp [intOf]; omega
      · obtain rfl : X.length = k := by omega
        have HAL := Lib.hid (aliveA_fromR B6.out)
        go_wp2_with (go_at_call 17; (with_reducible refine HAL.out.mono ?_); rintro e w7 ⟨rfl, h7⟩)
        go_ret
        exact ⟨rfl, h7⟩
  · go_enter Try.func9, Try.ntmps9
    have hl' : (1048576 : Int) < (ds.length : Int) := by omega
    go_wp2
    go_ret
    exact ⟨rfl, Below.refl _ _⟩
end Go.Proofs.Ytenihedpbklmlaa
