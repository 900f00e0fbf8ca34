/-
  What EncodeNibble, the test of blocks, EncodeBlocks and DecodeBlocks answer, for every list. Conditions: a slice's room is known; the program's two tables lie in their variables, where a word is looked up.
-/
import Derived.Test.YtflplihhakepfaaNib2
import Derived.Test.YtflplihhakepfaaAppendA
import Derived.Test.YtflplihhakepfaaSpec2
namespace Go.Proofs.Ytflplihhakepfaa
open Go.RowKit

/-- Four bits. -/
def nibOk (xs : List Int) : Bool := bitsOk xs && decide (xs.length = 4)
/-- What EncodeNibble answers. -/
def encOr (xs : List Int) : List Int := if nibOk xs then encW xs else []
theorem nibOk_parts {xs : List Int} (h : nibOk xs = true) : xs.length = 4 ∧ xs.all isBit = true := by
  simp only [nibOk, Bool.and_eq_true, decide_eq_true_eq] at h
  exact ⟨h.2, bitsOk_all h.1⟩
theorem nibOk_mk {xs : List Int} (hl : xs.length = 4) (hb : xs.all isBit = true) : nibOk xs = true := by
  simp [nibOk, hl, bitsOk_mk hb (by omega)]
theorem encOr_no {xs : List Int} (h : nibOk xs = false) : encOr xs = [] := by simp [encOr, h]
theorem encOr_yes {xs : List Int} (h : nibOk xs = true) : encOr xs = encW xs := by simp [encOr, h]
/-- A new list, typed out. -/
theorem listPostC_lit {xs : List Int} {w w1 : World} {n : Nat} (h : Below w.heap.size w w1) (hn : n = xs.length) (hl : xs.length ≤ 1000) :
    ListPostC xs w (.returned (.slice (some ⟨w1.heap.size, 0, none⟩) n n)) (w1.alloc (.cells (xs.map (Value.int .i64)).toArray 3)) := by
  refine listPostC_row (b := w1.heap.size) ⟨_, heap_alloc_last _ _, by simp [hn], fun i hi => ?_⟩ hn (by unfold maxLen; omega) h.size (h.alloc h.size _)
  have hi2 : i < xs.length := by omega
  simp [hi2, el]
set_option maxHeartbeats 1000000 in
theorem encodeNibble_any (a : Option Addr) (c B : Nat) (xs : List Int) (w : World) (hx : Ints .i64 w B a xs) (hB : B ≤ w.heap.size) :
    Calls Try.prog 5 #[.slice a xs.length c] w (ListPostC (encOr xs) w) := by
  have hv := bitsValid_any a c B xs w hx hB
  by_cases hl : xs.length = 4
  · cases hb : bitsOk xs
    · have HE := Lib.hid (encOr_no (xs := xs) (by simp [nibOk, hb]))
      rw [hb] at hv
      rw [hl] at hv ⊢
      have HV := Lib.hid hv
      clear hv hx hb hl
      go_enter Try.func5, Try.ntmps5
      go_wp2_with (go_at_call 12; refine HV.out.mono ?_; rintro e w1 ⟨rfl, b1⟩; have B1 := Lib.hid b1; clear b1)
      go_ret
      rw [HE.out]
      exact listPostC_nil B1.out
    · have HE := Lib.hid (encOr_yes (xs := xs) (by simp [nibOk, hb, hl]))
      obtain ⟨b, off, rfl, hbb, hc⟩ := hx (by intro e; rw [e] at hl; simp at hl)
      have HC := Lib.hid (show ∀ w', Below w.heap.size w w' → ∀ i, i < 4 → w'.cell? ⟨b, off + i, none⟩ = some (.int .i64 (el xs i)) from fun w' hb' i hi => (hb'.cell (show b < w.heap.size by omega)).trans (hc i (by omega)))
      rw [hb] at hv
      rw [hl] at hv ⊢
      have HV := Lib.hid hv
      clear hv hx hb hl hc
      go_enter Try.func5, Try.ntmps5
      go_wp2_with (go_at_call 12; refine HV.out.mono ?_; rintro e w1 ⟨rfl, b1⟩; have B1 := Lib.hid b1; have c0 := HC.out w1 b1 0 (by omega); have c1 := HC.out w1 b1 1 (by omega); have c2 := HC.out w1 b1 2 (by omega); have c3 := HC.out w1 b1 3 (by omega); rw [Nat.add_zero] at c0; clear b1)
      go_quiet (fail)
      go_wp2
      go_ret
      rw [HE.out]
      exact listPostC_lit (xs := encW xs) (below_drewN B1.out _) rfl (by rw [encW_length]; omega)
  · have HE := Lib.hid (encOr_no (xs := xs) (by simp [nibOk, hl]))
    have hne : ((xs.length : Int) != 4) = true := by simp; omega
    clear hv hx hl
    go_enter Try.func5, Try.ntmps5
    go_wp2
    go_ret
    rw [HE.out]
    exact listPostC_nil (Below.refl _ _)

/-- A list of at most 128 blocks of m bits. -/
def blkOk (m : Nat) (xs : List Int) : Bool := bitsOk xs && (decide (xs.length % m = 0) && decide (xs.length ≤ 128 * m))
theorem blkOk_parts {m : Nat} {xs : List Int} (h : blkOk m xs = true) : bitsOk xs = true ∧ xs.length % m = 0 ∧ xs.length ≤ 128 * m := by
  simpa [blkOk] using h
end Go.Proofs.Ytflplihhakepfaa
