/-
  The laws of FieldAdd, FieldMul, FieldInverse, of squares and of the generator, walked: they return true for every code, and write into nothing that was there. Conditions: the program's two tables lie in their variables, where they are asked.
-/
import Derived.Test.YtlaofbaglepkgaaFldDraw
import Derived.Test.YtlaofbaglepkgaaFld2
import Derived.Test.YtlaofbaglepkgaaFldSpec
namespace Go.Proofs.Ytlaofbaglepkgaa
open Go.RowKit

theorem add_is (a b c : Nat) (w : World) (ha : a < 16) (hb : b < 16) (h : a ^^^ b = c) :
    Calls Try.prog 5 #[.int .i64 a, .int .i64 b] w fun e w' => e = .returned (.int .i64 (c : Int)) ∧ w = w' := by
  have := fieldAdd_any (a : Int) (b : Int) w
  rwa [addOr_nat ha hb, h] at this
theorem addOr_swap (a b : Int) : addOr b a = addOr a b := by
  unfold addOr; rw [Bool.and_comm, Nat.xor_comm]
theorem both_ok {a b : Int} : (elOk a = true ∧ elOk b = true) ∨ (addOr a b = -1 ∧ mulOr a b = -1 ∧ mulOr b a = -1) := by
  cases ha : elOk a
  · exact .inr ⟨addOr_l ha, mulOr_l ha, mulOr_r ha⟩
  · cases hb : elOk b
    · exact .inr ⟨addOr_r hb, mulOr_r hb, mulOr_l hb⟩
    · exact .inl ⟨rfl, rfl⟩
theorem xor_back (m n : Nat) : (m ^^^ n) ^^^ n = m := by rw [Nat.xor_assoc, Nat.xor_self, Nat.xor_zero]

set_option maxHeartbeats 1000000 in
theorem walkFieldAdd (a : Option Addr) (c : Nat) (ds : List Int) (w : World) (hx : Ints .u8 w w.heap.size a ds) (hw : ∀ n ∈ ds, (Lit.int .u8 n).wf = true) (hc : ds.length ≤ c) (hcm : c ≤ maxLen) :
    Calls Try.prog 3 #[.slice a ds.length c] w fun e w' => e = .returned (.bool true) ∧ Below w.heap.size w w' := by
  have hb := isByte_of_wf hw
  clear hw
  by_cases hl : ds.length ≤ 1048576
  · go_enter Try.func3, Try.ntmps3
    go_wp2_with fail
    refine (drawFieldAdd_any a c ds w hx hb hc hcm).mono ?_
    rintro e w1 ⟨x, y, hx1, hy1, rfl, b1⟩
    have B1 := Lib.hid b1
    clear hx hb hc hcm b1 hx1 hy1
    have h1 := fieldAdd_any x y w1
    have h2 := specFieldAdd_any x y w1
    have h3 := fieldAdd_any y x w1
    rw [addOr_swap] at h3
    rcases both_ok (a := x) (b := y) with ⟨hx, hy⟩ | ⟨hn, _, _⟩
    · obtain ⟨m, rfl, hm⟩ := elOk_nat hx
      obtain ⟨n, rfl, hn⟩ := elOk_nat hy
      rw [addOr_nat hm hn] at h1 h2 h3
      have hr16 := xor_lt hm hn
      have h4 := add_is (m ^^^ n) n m w1 hr16 hn (xor_back m n)
      have h5 := add_is m m 0 w1 hm hm (Nat.xor_self m)
      have h6 := add_is m 0 m w1 hm (by omega) (Nat.xor_zero m)
      generalize m ^^^ n = r at *
      have H1 := Lib.hid h1
      have H2 := Lib.hid h2
      have H3 := Lib.hid h3
      have H4 := Lib.hid h4
      have H5 := Lib.hid h5
      have H6 := Lib.hid h6
      have z : ((r : Int) != (r : Int)) = false := by simp
      clear h1 h2 h3 h4 h5 h6 hx hy
      go_wp2_with fail
      refine H1.out.mono ?_
      rintro e w' ⟨rfl, rfl⟩
      go_wp2_with fail
      refine H2.out.mono ?_
      rintro e w' ⟨rfl, rfl⟩
      go_wp2_with fail
      refine H3.out.mono ?_
      rintro e w' ⟨rfl, rfl⟩
      go_wp2_with fail
      refine H4.out.mono ?_
      rintro e w' ⟨rfl, rfl⟩
      go_wp2_with fail
      refine H5.out.mono ?_
      rintro e w' ⟨rfl, rfl⟩
      go_wp2_with fail
      refine H6.out.mono ?_
      rintro e w' ⟨rfl, rfl⟩
      go_wp2
      go_ret
      exact ⟨rfl, B1.out⟩
    · rw [hn] at h1 h2 h3
      have H1 := Lib.hid h1
      have H2 := Lib.hid h2
      have H3 := Lib.hid h3
      clear h1 h2 h3 hn
      go_wp2_with fail
      refine H1.out.mono ?_
      rintro e w' ⟨rfl, rfl⟩
      go_wp2_with fail
      refine H2.out.mono ?_
      rintro e w' ⟨rfl, rfl⟩
      go_wp2_with fail
      refine H3.out.mono ?_
      rintro e w' ⟨rfl, rfl⟩
      go_wp2_with fail
      refine (alive_any w1).mono ?_
      rintro e w2 ⟨rfl, b2⟩
      have B2 := Lib.hid (Below.next B1.out (Nat.le_refl _) b2)
      clear b2
      go_wp2
      go_ret
      exact ⟨rfl, B2.out⟩
  · go_enter Try.func3, Try.ntmps3
    go_wp2
    go_ret
    exact ⟨rfl, Below.refl _ _⟩
end Go.Proofs.Ytlaofbaglepkgaa
