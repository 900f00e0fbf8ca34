/-
  What ForwardTransform, BackwardTransform and AddPrefix answer, for every list. Condition: the list can be read.
-/
import Derived.Test.YtkigjnjbjbnidaaTr6
namespace Go.Proofs.Ytkigjnjbjbnidaa
open Go.RowKit

set_option maxHeartbeats 1000000 in
theorem forwardTransform_any (a : Option Addr) (c : Nat) (xs : List Int) (w : World) (hx : Ints .i64 w w.heap.size a xs) :
    Calls Try.prog 15 #[.slice a xs.length c] w (ListPostC (ftOr xs) w) := by
  have HP := Lib.hid (pointsOf_any a c xs w hx)
  clear hx
  cases hok : ptOk xs
  · have HE := Lib.hid (ftOr_no hok)
    have HP := Lib.hid (HP.out.mono (R' := fun e w' => e = .returned (.tuple #[.agg (rw16 z16), .bool false]) ∧ Below w.heap.size w w') fun _ _ h => ptPost_no h hok)
    clear hok
    go_enter Try.func15, Try.ntmps15
    go_wp2_with (first | (go_at_call 30; refine HP.out.mono ?_; rintro e w1 ⟨rfl, hb1⟩; have B1 := Lib.hid hb1; clear hb1) | (refine store16 (.tmp 3) (.tmp 8) w1.heap.size z16 z16 (new16 w1) z16_len rfl rfl rfl rfl ?_; intro W1 hW1; have B2 := Lib.hid (B1.out.trans ((below_put (alloc_belowT w1 _) hW1 (Nat.le_refl _)).mono B1.out.size)); clear hW1))
    go_ret
    rw [HE.out]
    exact listPostC_nilT B2.out
  · have HE := Lib.hid (fftL_forward hok)
    have HL := Lib.hid (ptOk_len hok)
    have HF := Lib.hid (fun W => forward_any xs W (ptOk_len hok) (rin_ok hok))
    have HLi := Lib.hid (fun W => ptsList_any (fftL 2 xs) W (fftL_len 2 xs))
    rw [HE.out] at HF HLi
    have HP := Lib.hid (HP.out.mono (R' := fun e w' => e = .returned (.tuple #[.agg (rw16 xs), .bool true]) ∧ Below w.heap.size w w') fun _ _ h => ptPost_yes h hok)
    clear hok HE
    generalize ftOr xs = rs at *
    go_enter Try.func15, Try.ntmps15
    go_wp2_with (first | (go_at_call 30; refine HP.out.mono ?_; rintro e w1 ⟨rfl, hb1⟩; have B1 := Lib.hid hb1; clear hb1) | (refine store16 (.tmp 3) (.tmp 8) w1.heap.size z16 xs (new16 w1) HL.out rfl rfl rfl rfl ?_; intro W1 hW1; have A1 := Lib.hid (put16 (new16 w1) hW1 HL.out); have B2 := Lib.hid (B1.out.trans ((below_put (alloc_belowT w1 _) hW1 (Nat.le_refl _)).mono B1.out.size)); clear hW1) | (refine load16 (.tmp 3) w1.heap.size xs A1.out rfl rfl rfl ?_) | (go_at_call 31; (with_reducible refine (HF.out _).mono ?_); rintro e w2 ⟨rfl, hb2⟩; have B3 := Lib.hid (Below.next B2.out (Nat.le_refl _) hb2); clear hb2) | (go_at_call 32; (with_reducible refine (HLi.out _).mono ?_); rintro e w3 hp3; obtain ⟨a3, cap3, rfl, hcap3, hown3, hb3⟩ := listPostC_up hp3 B3.out; have H3 := Lib.hid (And.intro hcap3 (And.intro hown3 hb3)); clear hp3 hcap3 hown3 hb3))
    go_ret
    exact ⟨_, _, rfl, H3.out.1, H3.out.2.1, H3.out.2.2⟩
set_option maxHeartbeats 1000000 in
theorem backwardTransform_any (a : Option Addr) (c : Nat) (xs : List Int) (w : World) (hx : Ints .i64 w w.heap.size a xs) :
    Calls Try.prog 18 #[.slice a xs.length c] w (ListPostC (btOr xs) w) := by
  have HP := Lib.hid (pointsOf_any a c xs w hx)
  clear hx
  cases hok : ptOk xs
  · have HE := Lib.hid (btOr_no hok)
    have HP := Lib.hid (HP.out.mono (R' := fun e w' => e = .returned (.tuple #[.agg (rw16 z16), .bool false]) ∧ Below w.heap.size w w') fun _ _ h => ptPost_no h hok)
    clear hok
    go_enter Try.func18, Try.ntmps18
    go_wp2_with (first | (go_at_call 30; refine HP.out.mono ?_; rintro e w1 ⟨rfl, hb1⟩; have B1 := Lib.hid hb1; clear hb1) | (refine store16 (.tmp 3) (.tmp 8) w1.heap.size z16 z16 (new16 w1) z16_len rfl rfl rfl rfl ?_; intro W1 hW1; have B2 := Lib.hid (B1.out.trans ((below_put (alloc_belowT w1 _) hW1 (Nat.le_refl _)).mono B1.out.size)); clear hW1))
    go_ret
    rw [HE.out]
    exact listPostC_nilT B2.out
  · have HE := Lib.hid (bkL_back hok)
    have HL := Lib.hid (ptOk_len hok)
    have HF := Lib.hid (fun W => backward_any xs W (ptOk_len hok) (rin_ok hok))
    have HLi := Lib.hid (fun W => ptsList_any (bkL xs) W (l16_length _))
    rw [HE.out] at HF HLi
    have HP := Lib.hid (HP.out.mono (R' := fun e w' => e = .returned (.tuple #[.agg (rw16 xs), .bool true]) ∧ Below w.heap.size w w') fun _ _ h => ptPost_yes h hok)
    clear hok HE
    generalize btOr xs = rs at *
    go_enter Try.func18, Try.ntmps18
    go_wp2_with (first | (go_at_call 30; refine HP.out.mono ?_; rintro e w1 ⟨rfl, hb1⟩; have B1 := Lib.hid hb1; clear hb1) | (refine store16 (.tmp 3) (.tmp 8) w1.heap.size z16 xs (new16 w1) HL.out rfl rfl rfl rfl ?_; intro W1 hW1; have A1 := Lib.hid (put16 (new16 w1) hW1 HL.out); have B2 := Lib.hid (B1.out.trans ((below_put (alloc_belowT w1 _) hW1 (Nat.le_refl _)).mono B1.out.size)); clear hW1) | (refine load16 (.tmp 3) w1.heap.size xs A1.out rfl rfl rfl ?_) | (go_at_call 35; (with_reducible refine (HF.out _).mono ?_); rintro e w2 ⟨rfl, hb2⟩; have B3 := Lib.hid (Below.next B2.out (Nat.le_refl _) hb2); clear hb2) | (go_at_call 32; (with_reducible refine (HLi.out _).mono ?_); rintro e w3 hp3; obtain ⟨a3, cap3, rfl, hcap3, hown3, hb3⟩ := listPostC_up hp3 B3.out; have H3 := Lib.hid (And.intro hcap3 (And.intro hown3 hb3)); clear hp3 hcap3 hown3 hb3))
    go_ret
    exact ⟨_, _, rfl, H3.out.1, H3.out.2.1, H3.out.2.2⟩

/-- What AddPrefix answers: of the numbers it asks nothing. -/
def pxOr (xs : List Int) (n : Int) : List Int := if xs.length = 16 ∧ 0 ≤ n ∧ n ≤ 16 then xs.drop (16 - n.toNat) ++ xs else []
theorem pxOr_no {xs : List Int} {n : Int} (h : ¬ (xs.length = 16 ∧ 0 ≤ n ∧ n ≤ 16)) : pxOr xs n = [] := if_neg h
theorem pxOr_yes {xs : List Int} {N : Nat} (h : xs.length = 16) (hN : N ≤ 16) : pxOr xs (N : Int) = xs.drop (16 - N) ++ xs := by
  unfold pxOr
  rw [if_pos ⟨h, by omega, by omega⟩]; rfl
theorem pxOr_ap {xs : List Int} (h : ptOk xs = true) (n : Int) : pxOr xs n = apOr xs n := by
  unfold pxOr apOr
  have hl := ptOk_len h
  by_cases e : 0 ≤ n ∧ n ≤ 16
  · rw [if_pos ⟨hl, e.1, e.2⟩, if_pos ⟨h, e.1, e.2⟩]
  · rw [if_neg fun x => e x.2, if_neg fun x => e x.2]
theorem ints_from {k : IntKind} {w : World} {B b off m : Nat} {xs : List Int} (hx : Ints k w B (some ⟨b, off, none⟩) xs) : Ints k w B (some ⟨b, off + m, none⟩) (xs.drop m) := fun hne => by
  have hne' : xs ≠ [] := by intro e; subst e; simp at hne
  obtain ⟨b', off', e, hb, hc⟩ := hx hne'
  injection e with e
  injection e with e1 e2
  subst e1 e2
  refine ⟨b, off + m, rfl, hb, fun i hi => ?_⟩
  rw [List.length_drop] at hi
  rw [Nat.add_assoc, hc (m + i) (by omega)]
  simp [el]
set_option maxHeartbeats 1000000 in
theorem addPrefix_three (a : Option Addr) (c : Nat) (xs : List Int) (w : World) (hx : Ints .i64 w w.heap.size a xs) (hc : xs.length ≤ c) :
    Calls Try.prog 24 #[.slice a xs.length c, .int .i64 3] w (ListPostC (pxOr xs 3) w) := by
  by_cases hl : xs.length = 16
  · obtain ⟨b, off, rfl, _, _⟩ := hx.at_ (i := 0) (by omega)
    have HE := Lib.hid (show pxOr xs 3 = xs.drop 13 ++ xs from pxOr_yes (N := 3) hl (by omega))
    have HD := Lib.hid (show (xs.drop 13).length = 3 by rw [List.length_drop]; omega)
    have z : ((xs.length : Int) != 16) = false := by rw [bne_eq_false_iff_eq]; omega
    have HC := Lib.hid (fun o => slicesConcat_any w.heap.size (some ⟨b, off + 13, none⟩) (some ⟨b, off, none⟩) (c - 13) c (xs.drop 13) xs (w.alloc (.cells #[.slice (some ⟨b, off + 13, none⟩) (xs.drop 13).length (c - 13), .slice (some ⟨b, off, none⟩) xs.length c] o)) (cell_of_row _ _ 0 _ _ _ (heap_alloc_last _ _)) (cell_of_row _ _ 1 _ _ _ (heap_alloc_last _ _)) (by simp)
      (((ints_from hx).below (alloc_belowT w _)).more (by simp)) ((hx.below (alloc_belowT w _)).more (by simp)) (by omega) (by rw [List.length_drop]; omega))
    rw [HD.out] at HC
    have HB := Lib.hid (fun o => alloc_belowT w o)
    have hc13 : ¬ c = 13 := by omega
    have hl' : (13 : Int) ≤ (xs.length : Int) := by omega
    have hl3 : xs.length - 13 = 3 := by omega
    clear hx hl hc
    go_enter Try.func24, Try.ntmps24
    go_wp2_with (go_at_call 37; (with_reducible refine (HC.out _).mono ?_); rintro e w1 hp; obtain ⟨a3, cap3, rfl, hcap3, hown3, hb3⟩ := listPostC_up hp (HB.out _); have H3 := Lib.hid (And.intro hcap3 (And.intro hown3 hb3)); clear hp hcap3 hown3 hb3)
    go_ret
    rw [HE.out]
    exact ⟨a3, cap3, by rw [List.length_append, HD.out]; rfl, H3.out.1, H3.out.2.1, H3.out.2.2⟩
  · have HE := Lib.hid (pxOr_no (xs := xs) (n := 3) (fun h => hl h.1))
    have z : ((xs.length : Int) != 16) = true := by rw [bne_iff_ne]; omega
    clear hx hl hc
    go_enter Try.func24, Try.ntmps24
    go_wp2
    go_ret
    rw [HE.out]
    exact listPostC_nilT (Below.refl _ _)
end Go.Proofs.Ytkigjnjbjbnidaa
