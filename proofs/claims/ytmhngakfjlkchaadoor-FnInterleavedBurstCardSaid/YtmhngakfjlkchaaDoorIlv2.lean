/-
  What InterleaveBits and DeinterleaveBits answer, for every list and every number of rows. No condition.
-/
import Derived.Test.YtmhngakfjlkchaaDoorIlv1
namespace Go.Proofs.YtmhngakfjlkchaaDoor
open Go.RowKit

theorem row_ilv {wr : World} {b t n k : Nat} {xs : List Int} {R C : Nat} (h : wr.rowIs b t n (fun j => .int .i64 (if j < k then el (ilv xs R C) j else 0))) (hk : k < xs.length) :
    (wr.setCell ⟨b, k, none⟩ (.int .i64 (el xs (pm8 R C k)))).rowIs b t n (fun j => .int .i64 (if j < k + 1 then el (ilv xs R C) j else 0)) :=
  (h.set k (.int .i64 (el xs (pm8 R C k)))).congr fun j _ => by
    by_cases e : j = k
    · subst e; simp [ilv_el hk]
    · simp only [e, if_false]
      by_cases h2 : j < k
      · simp [h2, Nat.lt_succ_of_lt h2]
      · simp [h2, show ¬ j < k + 1 by omega]
theorem row_dlv {wr : World} {b t n k : Nat} {xs : List Int} {R C : Nat} (h : wr.rowIs b t n (fun j => .int .i64 (if pm8 C R j < k then el (ilv xs C R) j else 0))) (hn : n = xs.length) (hl : xs.length = R * C) (hk : k < xs.length) :
    (wr.setCell ⟨b, pm8 R C k, none⟩ (.int .i64 (el xs k))).rowIs b t n (fun j => .int .i64 (if pm8 C R j < k + 1 then el (ilv xs C R) j else 0)) :=
  (h.set (pm8 R C k) (.int .i64 (el xs k))).congr fun j hj => by
    have hb : pm8 C R (pm8 R C k) = k := pm8_back (by rw [Nat.mul_comm, ← hl]; exact hk)
    by_cases e : j = pm8 R C k
    · subst e
      have hlt : pm8 R C k < xs.length := by rw [hl]; exact pm8_lt (by rw [← hl]; exact hk)
      simp [ilv_el hlt, hb]
    · simp only [e, if_false]
      have hne : pm8 C R j ≠ k := fun h3 => e (by rw [← h3, pm8_back (by rw [← hl, ← hn]; exact hj)])
      by_cases h2 : pm8 C R j < k
      · simp [h2, Nat.lt_succ_of_lt h2]
      · simp [h2, show ¬ pm8 C R j < k + 1 by omega]

set_option maxHeartbeats 1000000 in
theorem interleave_any (a : Option Addr) (c : Nat) (xs : List Int) (r : Int) (w : World) (hx : Ints .i64 w w.heap.size a xs) :
    Calls Tryd.prog 9 #[.slice a xs.length c, .int .i64 r] w (ListPostC (ilvOr xs r) w) := by
  cases hok : tabOk xs r
  · have HF := Lib.hid (filledTable_no a c xs r w hx hok)
    have HE := Lib.hid (ilvOr_no hok)
    clear hok hx
    go_enter Tryd.func9, Tryd.ntmps9
    go_wp2_with (go_at_call 21; refine HF.out.mono ?_; rintro e w1 ⟨rfl, b1⟩; have B1 := Lib.hid (b1.alloc b1.size); clear b1)
    go_ret
    rw [HE.out]
    exact listPostC_nil (B1.out _)
  · obtain ⟨R, C, rfl, ⟨hR1, hR2⟩, hb, hl, hC⟩ := tabOk_parts hok
    have hn := bitsOk_length hb
    have hC2 : C ≤ 1024 := by rw [← hC]; exact Nat.le_trans (Nat.div_le_self _ _) hn
    have HF := Lib.hid (filledTable_yes a c R C xs w hx hok hC)
    have HE := Lib.hid (ilvOr_yes hok hC)
    have HL := Lib.hid hl
    have HX := Lib.hid hx
    have HW := Lib.hid (fun k W (hk : k ≤ 1024) => writtenAt_any R C k W hR1 (by omega) hC2 hk)
    have hmk := run_make_row' (P := Tryd.prog) 23 3 (.int .i64 0) 8 Tryd.underlying23 Tryd.infoInt rfl .i64 .i64 xs.length (by omega) (by omega)
    clear hok hx hb hl hC hR1 hR2 hC2
    go_enter Tryd.func9, Tryd.ntmps9
    go_wp2_with (go_at_call 21; refine HF.out.mono ?_; rintro e w1 ⟨rfl, b1⟩; have B1 := Lib.hid b1; have s1 : w.heap.size ≤ w1.heap.size := b1.size; clear b1)
    clear hmk HF
    go_loopw [22] (fun i wr => ∃ k : Nat, k ≤ xs.length ∧ i = .int .i64 k ∧ wr.heap[w1.heap.size]? = some (.cells #[.int .i64 R, .int .i64 C] 41 (0, 0)) ∧
        wr.rowIs (w1.heap.size + 1) 3 xs.length (fun j => .int .i64 (if j < k then el (ilv xs R C) j else 0)) ∧ Below w.heap.size w wr) (fun i _ => xs.length - (intOf i).toNat)
    case atStart =>
      refine ⟨0, Nat.zero_le _, rfl, (Below.heap_alloc _ _ _ (by simp)).trans (heap_alloc_last _ _), ?_, (B1.out.alloc s1 _).alloc (by simp; omega) _⟩
      have := World.rowIs_made (w1.alloc (.cells #[.int .i64 R, .int .i64 C] 41)) (.int .i64 0) xs.length 3
      rw [World.size_alloc] at this
      exact this.congr (by intro j hj; simp)
    case round =>
      obtain ⟨k, hk, rfl, htab, hrow, hbel⟩ := hrel
      by_cases hlt : k < xs.length
      · have hp : pm8 R C k < xs.length := by rw [HL.out]; exact pm8_lt (by rw [← HL.out]; exact hlt)
        have hW := HW.out k wr (by omega)
        have hT : w1.heap.size + 1 < wr.heap.size := hrow.lt
        obtain ⟨b, off, rfl, hbb, hc⟩ := (HX.out.below hbel).at_ hp
        have c0 : wr.cell? ⟨w1.heap.size, 0, none⟩ = some (.int .i64 R) := cell_of_row _ _ 0 _ _ _ htab
        have c1 : wr.cell? ⟨w1.heap.size, 1, none⟩ = some (.int .i64 C) := cell_of_row _ _ 1 _ _ _ htab
        have HT := Lib.hid htab
        have HR := Lib.hid hrow
        have HBe := Lib.hid hbel
        have HW2 := Lib.hid hW
        have HC := Lib.hid hc
        have hwr : w.heap.size ≤ wr.heap.size := hbel.size
        obtain ⟨p, hpp⟩ : ∃ p, p = pm8 R C k := ⟨_, rfl⟩
        have HPP := Lib.hid hpp
        rw [← hpp] at HW2 HC hp
        clear htab hrow hbel hW hc hpp
        go_wp2_with (go_at_call 22; refine HW2.out.mono ?_; rintro e w2 ⟨rfl, b2⟩; have B2 := Lib.hid b2; have hc2 := (b2.cell (p := ⟨b, off + p, none⟩) (by show b < _; omega)).trans HC.out; have hr2 := HR.out.of_block (b2.block _ hT); have hf2 := hr2.frozen k; have hcv2 := hr2.cell hlt; clear b2)
        have H2 := Lib.hid (row_ilv hr2 hlt)
        rw [← HPP.out] at H2
        clear hr2 hc2 hcv2 hf2 c0 c1
        go_roundw
        case rel => exact ⟨k + 1, by omega, by go_num, (Below.heap_setCell _ _ _ _ (by show w1.heap.size ≠ w1.heap.size + 1; omega)).trans ((B2.out.block _ (by omega)).trans HT.out), H2.out, (HBe.out.trans (B2.out.mono hwr)).setCell (p := ⟨w1.heap.size + 1, k, none⟩) (by show w.heap.size ≤ w1.heap.size + 1; omega) _⟩
        case measure => simp [intOf]; omega
      · have HK := Lib.hid (show k = xs.length by omega)
        have H1 := Lib.hid (hrow.congr (g := fun j => .int .i64 (el (ilv xs R C) j)) (by intro j hj; simp [show j < k by omega]))
        have HBe := Lib.hid hbel
        clear hrow hbel htab
        go_wp2
        go_ret
        rw [HE.out]
        exact listPostC_row H1.out (ilv_length _ _ _).symm (by unfold maxLen; omega) (by omega) HBe.out
set_option maxHeartbeats 1000000 in
theorem deinterleave_any (a : Option Addr) (c : Nat) (xs : List Int) (r : Int) (w : World) (hx : Ints .i64 w w.heap.size a xs) :
    Calls Tryd.prog 11 #[.slice a xs.length c, .int .i64 r] w (ListPostC (dlvOr xs r) w) := by
  cases hok : tabOk xs r
  · have HF := Lib.hid (filledTable_no a c xs r w hx hok)
    have HE := Lib.hid (dlvOr_no hok)
    clear hok hx
    go_enter Tryd.func11, Tryd.ntmps11
    go_wp2_with (go_at_call 21; refine HF.out.mono ?_; rintro e w1 ⟨rfl, b1⟩; have B1 := Lib.hid (b1.alloc b1.size); clear b1)
    go_ret
    rw [HE.out]
    exact listPostC_nil (B1.out _)
  · obtain ⟨R, C, rfl, ⟨hR1, hR2⟩, hb, hl, hC⟩ := tabOk_parts hok
    have hn := bitsOk_length hb
    have hC2 : C ≤ 1024 := by rw [← hC]; exact Nat.le_trans (Nat.div_le_self _ _) hn
    have HF := Lib.hid (filledTable_yes a c R C xs w hx hok hC)
    have HE := Lib.hid (dlvOr_yes hok hC)
    have HL := Lib.hid hl
    have HX := Lib.hid hx
    have HW := Lib.hid (fun k W (hk : k ≤ 1024) => writtenAt_any R C k W hR1 (by omega) hC2 hk)
    have hmk := run_make_row' (P := Tryd.prog) 23 3 (.int .i64 0) 8 Tryd.underlying23 Tryd.infoInt rfl .i64 .i64 xs.length (by omega) (by omega)
    clear hok hx hb hl hC hR1 hR2 hC2
    go_enter Tryd.func11, Tryd.ntmps11
    go_wp2_with (go_at_call 21; refine HF.out.mono ?_; rintro e w1 ⟨rfl, b1⟩; have B1 := Lib.hid b1; have s1 : w.heap.size ≤ w1.heap.size := b1.size; clear b1)
    clear hmk HF
    go_loopw [23] (fun i wr => ∃ k : Nat, k ≤ xs.length ∧ i = .int .i64 k ∧ wr.heap[w1.heap.size]? = some (.cells #[.int .i64 R, .int .i64 C] 41 (0, 0)) ∧
        wr.rowIs (w1.heap.size + 1) 3 xs.length (fun j => .int .i64 (if pm8 C R j < k then el (ilv xs C R) j else 0)) ∧ Below w.heap.size w wr) (fun i _ => xs.length - (intOf i).toNat)
    case atStart =>
      refine ⟨0, Nat.zero_le _, rfl, (Below.heap_alloc _ _ _ (by simp)).trans (heap_alloc_last _ _), ?_, (B1.out.alloc s1 _).alloc (by simp; omega) _⟩
      have := World.rowIs_made (w1.alloc (.cells #[.int .i64 R, .int .i64 C] 41)) (.int .i64 0) xs.length 3
      rw [World.size_alloc] at this
      exact this.congr (by intro j hj; simp)
    case round =>
      obtain ⟨k, hk, rfl, htab, hrow, hbel⟩ := hrel
      by_cases hlt : k < xs.length
      · have hp : pm8 R C k < xs.length := by rw [HL.out]; exact pm8_lt (by rw [← HL.out]; exact hlt)
        have hW := HW.out k wr (by omega)
        have hT : w1.heap.size + 1 < wr.heap.size := hrow.lt
        obtain ⟨b, off, rfl, hbb, hc⟩ := (HX.out.below hbel).at_ hlt
        have c0 : wr.cell? ⟨w1.heap.size, 0, none⟩ = some (.int .i64 R) := cell_of_row _ _ 0 _ _ _ htab
        have c1 : wr.cell? ⟨w1.heap.size, 1, none⟩ = some (.int .i64 C) := cell_of_row _ _ 1 _ _ _ htab
        have HT := Lib.hid htab
        have HR := Lib.hid hrow
        have HBe := Lib.hid hbel
        have HW2 := Lib.hid hW
        have hwr : w.heap.size ≤ wr.heap.size := hbel.size
        obtain ⟨p, hpp⟩ : ∃ p, p = pm8 R C k := ⟨_, rfl⟩
        have HPP := Lib.hid hpp
        rw [← hpp] at HW2 hp
        clear htab hrow hbel hW hpp
        go_wp2_with (go_at_call 22; refine HW2.out.mono ?_; rintro e w2 ⟨rfl, b2⟩; have B2 := Lib.hid b2; have hr2 := HR.out.of_block (b2.block _ hT); have hf2 := hr2.frozen p; have hcv2 := hr2.cell hp; clear b2)
        have H2 := Lib.hid (row_dlv hr2 rfl HL.out hlt)
        rw [← HPP.out] at H2
        clear hr2 hc hcv2 hf2 c0 c1
        go_roundw
        case rel => exact ⟨k + 1, by omega, by go_num, (Below.heap_setCell _ _ _ _ (by show w1.heap.size ≠ w1.heap.size + 1; omega)).trans ((B2.out.block _ (by omega)).trans HT.out), H2.out, (HBe.out.trans (B2.out.mono hwr)).setCell (p := ⟨w1.heap.size + 1, p, none⟩) (by show w.heap.size ≤ w1.heap.size + 1; omega) _⟩
        case measure => simp [intOf]; omega
      · have HK := Lib.hid (show k = xs.length by omega)
        have H1 := Lib.hid (hrow.congr (g := fun j => .int .i64 (el (ilv xs C R) j)) (by intro j hj; have h3 : pm8 C R j < C * R := pm8_lt (by rw [Nat.mul_comm C R, ← HL.out]; exact hj); rw [Nat.mul_comm C R, ← HL.out] at h3; simp [show pm8 C R j < k by omega]))
        have HBe := Lib.hid hbel
        clear hrow hbel htab
        go_wp2
        go_ret
        rw [HE.out]
        exact listPostC_row H1.out (ilv_length _ _ _).symm (by unfold maxLen; omega) (by omega) HBe.out
end Go.Proofs.YtmhngakfjlkchaaDoor
