/-
  What EncodeNibble, the test of blocks, EncodeBlocks and DecodeBlocks answer, for every list. Conditions: a slice's room is known; the program's two tables lie in their variables, where a word is looked up.
-/
import Derived.Test.YtmhngakfjlkchaaDoorNib2
import Derived.Test.YtmhngakfjlkchaaDoorAppendA
import Derived.Test.YtmhngakfjlkchaaDoorOne
namespace Go.Proofs.YtmhngakfjlkchaaDoor
open Go.RowKit

/-- Four bits. -/
def nibOk (xs : List Int) : Bool := bitsOk xs && decide (xs.length = 4)
/-- What EncodeNibble answers. -/
def encOr (xs : List Int) : List Int := if nibOk xs then encW xs else []
theorem nibOk_parts {xs : List Int} (h : nibOk xs = true) : xs.length = 4 ∧ xs.all isBit = true := by
  simp only [nibOk, Bool.and_eq_true, decide_eq_true_eq] at h
  exact ⟨h.2, bitsOk_all h.1⟩
theorem nibOk_mk {xs : List Int} (hl : xs.length = 4) (hb : xs.all isBit = true) : nibOk xs = true := by
  simp [nibOk, hl, bitsOk_mk hb (by omega)]
theorem encOr_no {xs : List Int} (h : nibOk xs = false) : encOr xs = [] := by simp [encOr, h]
theorem encOr_yes {xs : List Int} (h : nibOk xs = true) : encOr xs = encW xs := by simp [encOr, h]
/-- A new list, typed out. -/
theorem listPostC_lit {xs : List Int} {w w1 : World} {n : Nat} (h : Below w.heap.size w w1) (hn : n = xs.length) (hl : xs.length ≤ 1000) :
    ListPostC xs w (.returned (.slice (some ⟨w1.heap.size, 0, none⟩) n n)) (w1.alloc (.cells (xs.map (Value.int .i64)).toArray 3)) := by
  refine listPostC_row (b := w1.heap.size) ⟨_, heap_alloc_last _ _, by simp [hn], fun i hi => ?_⟩ hn (by unfold maxLen; omega) h.size (h.alloc h.size _)
  have hi2 : i < xs.length := by omega
  simp [hi2, el]
set_option maxHeartbeats 1000000 in
theorem encodeNibble_any (a : Option Addr) (c B : Nat) (xs : List Int) (w : World) (hx : Ints .i64 w B a xs) (hB : B ≤ w.heap.size) :
    Calls Tryd.prog 17 #[.slice a xs.length c] w (ListPostC (encOr xs) w) := by
  have hv := bitsValid_any a c B xs w hx hB
  by_cases hl : xs.length = 4
  · cases hb : bitsOk xs
    · have HE := Lib.hid (encOr_no (xs := xs) (by simp [nibOk, hb]))
      rw [hb] at hv
      rw [hl] at hv ⊢
      have HV := Lib.hid hv
      clear hv hx hb hl
      go_enter Tryd.func17, Tryd.ntmps17
      go_wp2_with (go_at_call 24; refine HV.out.mono ?_; rintro e w1 ⟨rfl, b1⟩; have B1 := Lib.hid b1; clear b1)
      go_ret
      rw [HE.out]
      exact listPostC_nil B1.out
    · have HE := Lib.hid (encOr_yes (xs := xs) (by simp [nibOk, hb, hl]))
      obtain ⟨b, off, rfl, hbb, hc⟩ := hx (by intro e; rw [e] at hl; simp at hl)
      have HC := Lib.hid (show ∀ w', Below w.heap.size w w' → ∀ i, i < 4 → w'.cell? ⟨b, off + i, none⟩ = some (.int .i64 (el xs i)) from fun w' hb' i hi => (hb'.cell (show b < w.heap.size by omega)).trans (hc i (by omega)))
      rw [hb] at hv
      rw [hl] at hv ⊢
      have HV := Lib.hid hv
      clear hv hx hb hl hc
      go_enter Tryd.func17, Tryd.ntmps17
      go_wp2_with (go_at_call 24; refine HV.out.mono ?_; rintro e w1 ⟨rfl, b1⟩; have B1 := Lib.hid b1; have c0 := HC.out w1 b1 0 (by omega); have c1 := HC.out w1 b1 1 (by omega); have c2 := HC.out w1 b1 2 (by omega); have c3 := HC.out w1 b1 3 (by omega); rw [Nat.add_zero] at c0; clear b1)
      go_quiet (fail)
      go_wp2
      go_ret
      rw [HE.out]
      exact listPostC_lit (xs := encW xs) (below_drewN B1.out _) rfl (by rw [encW_length]; omega)
  · have HE := Lib.hid (encOr_no (xs := xs) (by simp [nibOk, hl]))
    have hne : ((xs.length : Int) != 4) = true := by simp; omega
    clear hv hx hl
    go_enter Tryd.func17, Tryd.ntmps17
    go_wp2
    go_ret
    rw [HE.out]
    exact listPostC_nil (Below.refl _ _)

/-- A list of at most 128 blocks of m bits. -/
def blkOk (m : Nat) (xs : List Int) : Bool := bitsOk xs && (decide (xs.length % m = 0) && decide (xs.length ≤ 128 * m))
theorem blkOk_parts {m : Nat} {xs : List Int} (h : blkOk m xs = true) : bitsOk xs = true ∧ xs.length % m = 0 ∧ xs.length ≤ 128 * m := by
  simpa [blkOk] using h
set_option maxHeartbeats 400000 in
theorem blocksValid_any (a : Option Addr) (c B m : Nat) (xs : List Int) (w : World) (hx : Ints .i64 w B a xs) (hB : B ≤ w.heap.size) (hm : m = 4 ∨ m = 7) :
    Calls Tryd.prog 16 #[.slice a xs.length c, .int .i64 m] w fun e w' => e = .returned (.bool (blkOk m xs)) ∧ Below w.heap.size w w' := by
  have hv := bitsValid_any a c B xs w hx hB
  clear hx
  have HB0 := Lib.hid (show blkOk m xs = (bitsOk xs && (decide (xs.length % m = 0) && decide (xs.length ≤ 128 * m))) from rfl)
  cases hb : bitsOk xs
  · rw [hb] at hv
    have HE := Lib.hid (show blkOk m xs = false by have := HB0.out; rw [hb] at this; simpa using this)
    have HV := Lib.hid hv
    clear hv hb HB0
    rcases hm with rfl | rfl
    all_goals
      go_enter Tryd.func16, Tryd.ntmps16
      go_wp2_with (go_at_call 24; refine HV.out.mono ?_; rintro e w1 ⟨rfl, b1⟩; have B1 := Lib.hid b1; clear b1)
      go_ret
      exact ⟨ret_bool HE.out.symm, B1.out⟩
  · rw [hb] at hv
    have hl := bitsOk_length hb
    have HE := Lib.hid (show blkOk m xs = (decide (xs.length % m = 0) && decide (xs.length ≤ 128 * m)) by have := HB0.out; rw [hb] at this; simpa using this)
    have HV := Lib.hid hv
    clear hv hb HB0
    rcases hm with rfl | rfl
    · by_cases h1 : xs.length % 4 = 0
      · have hr : ((xs.length : Int) % 4 == 0) = true := by rw [beq_iff_eq]; omega
        have H1 := Lib.hid h1
        clear h1
        go_enter Tryd.func16, Tryd.ntmps16
        go_wp2_with (go_at_call 24; refine HV.out.mono ?_; rintro e w1 ⟨rfl, b1⟩; have B1 := Lib.hid b1; clear b1)
        go_ret
        exact ⟨ret_bool (by rw [HE.out, H1.out, Bool.eq_iff_iff]; simp; omega), B1.out⟩
      · have hr : ((xs.length : Int) % 4 == 0) = false := by rw [beq_eq_false_iff_ne]; omega
        have H1 := Lib.hid h1
        clear h1
        go_enter Tryd.func16, Tryd.ntmps16
        go_wp2_with (go_at_call 24; refine HV.out.mono ?_; rintro e w1 ⟨rfl, b1⟩; have B1 := Lib.hid b1; clear b1)
        go_ret
        exact ⟨ret_bool (by rw [HE.out]; simp [H1.out]), B1.out⟩
    · by_cases h1 : xs.length % 7 = 0
      · have hr : ((xs.length : Int) % 7 == 0) = true := by rw [beq_iff_eq]; omega
        have H1 := Lib.hid h1
        clear h1
        go_enter Tryd.func16, Tryd.ntmps16
        go_wp2_with (go_at_call 24; refine HV.out.mono ?_; rintro e w1 ⟨rfl, b1⟩; have B1 := Lib.hid b1; clear b1)
        go_ret
        exact ⟨ret_bool (by rw [HE.out, H1.out, Bool.eq_iff_iff]; simp; omega), B1.out⟩
      · have hr : ((xs.length : Int) % 7 == 0) = false := by rw [beq_eq_false_iff_ne]; omega
        have H1 := Lib.hid h1
        clear h1
        go_enter Tryd.func16, Tryd.ntmps16
        go_wp2_with (go_at_call 24; refine HV.out.mono ?_; rintro e w1 ⟨rfl, b1⟩; have B1 := Lib.hid b1; clear b1)
        go_ret
        exact ⟨ret_bool (by rw [HE.out]; simp [H1.out]), B1.out⟩
end Go.Proofs.YtmhngakfjlkchaaDoor
