/-
  What the functions of chapter 1 answer, for every list.
-/
import Derived.Test.YtnnknfpkbhcghaaPackBits
import Derived.Test.YtnnknfpkbhcghaaToInts
namespace Go.Proofs.Ytnnknfpkbhcghaa
open Go.RowKit

set_option maxHeartbeats 400000 in
theorem bitsValid_any (a : Option Addr) (c B : Nat) (xs : List Int) (w : World) (hx : Ints .i64 w B a xs) (hB : B ≤ w.heap.size) :
    Calls Try.prog 45 #[.slice a xs.length c] w fun e w' => e = .returned (.bool (bitsOk xs)) ∧ Below w.heap.size w w' := by
  go_enter Try.func45, Try.ntmps45
  go_wp2_with (first
    | (go_at_call 56; refine (packBits_any a c B xs w hx hB).mono ?_; rintro e w1 ⟨cs, P, rfl, hpk, hs, h1, hbel⟩; have HS := Lib.hid hs; have H1 := Lib.hid h1; have HB := Lib.hid hbel; clear hs h1 hbel hpk)
    | (refine store_pack (.tmp 3) (.tmp 8) w1.heap.size cs _ (heap_alloc_last _ _) HS.out rfl H1.out rfl rfl rfl rfl ?_))
  go_ret
  exact ⟨rfl, below_setRow (HB.out.alloc HB.out.size _) HB.out.size _⟩

end Go.Proofs.Ytnnknfpkbhcghaa
