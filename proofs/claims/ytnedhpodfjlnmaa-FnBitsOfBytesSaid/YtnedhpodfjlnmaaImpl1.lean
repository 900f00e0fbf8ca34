/-
  What the functions of chapter 1 answer, for every list.
-/
import Derived.Test.YtnedhpodfjlnmaaPackBits
import Derived.Test.YtnedhpodfjlnmaaToInts
namespace Go.Proofs.Ytnedhpodfjlnmaa
open Go.RowKit

set_option maxHeartbeats 400000 in
theorem bitsValid_any (a : Option Addr) (c B : Nat) (xs : List Int) (w : World) (hx : Ints .i64 w B a xs) (hB : B ≤ w.heap.size) :
    Calls Try.prog 15 #[.slice a xs.length c] w fun e w' => e = .returned (.bool (bitsOk xs)) ∧ Below w.heap.size w w' := by
  go_enter Try.func15, Try.ntmps15
  go_wp2_with (first
    | (go_at_call 44; refine (packBits_any a c B xs w hx hB).mono ?_; rintro e w1 ⟨cs, P, rfl, hpk, hs, h1, hbel⟩; have HS := Lib.hid hs; have H1 := Lib.hid h1; have HB := Lib.hid hbel; clear hs h1 hbel hpk)
    | (refine store_pack (.tmp 3) (.tmp 8) w1.heap.size cs _ (heap_alloc_last _ _) HS.out rfl H1.out rfl rfl rfl rfl ?_))
  go_ret
  exact ⟨rfl, below_setRow (HB.out.alloc HB.out.size _) HB.out.size _⟩

set_option maxHeartbeats 400000 in
theorem walkExactBitsValid (a : Option Addr) (c : Nat) (xs : List Int) (w : World) (hx : Ints .i64 w w.heap.size a xs) (_hw : ∀ n ∈ xs, (Lit.int .i64 n).wf = true) :
    Calls Try.prog 9 #[.slice a xs.length c] w fun e w' => e = .returned (.bool true) ∧ Below w.heap.size w w' := by
  by_cases hl : xs.length ≤ 1048576
  · have hl2 : xs.length ≤ maxLen := by unfold maxLen; omega
    have HL2 := Lib.hid hl2
    clear hl2
    go_enter Try.func9, Try.ntmps9
    go_wp2_with fail
    refine (toIntS_any a c w.heap.size xs w hx (Nat.le_refl _) hl).mono ?_
    rintro e w1 ⟨rfl, hr1, hb1⟩
    have HR1 := Lib.hid hr1
    have HB1 := Lib.hid hb1
    clear hr1 hb1
    go_wp2_with fail
    refine (specBitsValid_any _ _ (w.heap.size + 1) xs w1 (ints_of_row HR1.out rfl (by omega)) HL2.out).mono ?_
    rintro e w2 ⟨rfl, rfl⟩
    go_wp2_with fail
    have HX1 := Lib.hid ((hx.below HB1.out).more HB1.out.size)
    refine (toIntS_any a c w1.heap.size xs w1 HX1.out (Nat.le_refl _) hl).mono ?_
    rintro e w2 ⟨rfl, hr2, hb2⟩
    have HR2 := Lib.hid hr2
    have HB2 := Lib.hid hb2
    clear hr2 hb2
    go_wp2_with fail
    refine (bitsValid_any _ _ w2.heap.size xs w2 (ints_of_row HR2.out rfl HR2.out.lt) (Nat.le_refl _)).mono ?_
    rintro e w3 ⟨rfl, hb3⟩
    have HB3 := Lib.hid hb3
    clear hb3
    go_wp2_with fail
    have HB13 := Lib.hid (HB2.out.trans (HB3.out.mono HB2.out.size))
    have HX3 := Lib.hid ((HX1.out.below HB13.out).more HB13.out.size)
    refine (toIntS_any a c w3.heap.size xs w3 HX3.out (Nat.le_refl _) hl).mono ?_
    rintro e w4 ⟨rfl, hr4, hb4⟩
    have HR4 := Lib.hid hr4
    have HB4 := Lib.hid hb4
    clear hr4 hb4
    go_wp2_with fail
    have HR24 := Lib.hid (row_below (row_below HR2.out HB3.out HR2.out.lt) HB4.out (Nat.lt_of_lt_of_le HR2.out.lt HB3.out.size))
    refine (eqIntS_any _ _ _ _ w4.heap.size w4.heap.size xs xs w4 (ints_of_row HR24.out rfl HR24.out.lt) (ints_of_row HR4.out rfl HR4.out.lt) hl).mono ?_
    rintro e w5 ⟨rfl, n, rfl⟩
    go_wp2
    go_ret
    exact ⟨rfl, below_drewN (HB1.out.trans ((HB13.out.trans (HB4.out.mono HB13.out.size)).mono HB1.out.size)) _⟩
  · go_enter Try.func9, Try.ntmps9
    go_wp2
    go_ret
    exact ⟨rfl, Below.refl _ _⟩
end Go.Proofs.Ytnedhpodfjlnmaa
