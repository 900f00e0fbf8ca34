/-
  What the model's DecodeStream and StreamErrors answer, for every list. Condition: a list that can be read.
-/
import Derived.Test.YtnjjblcigcblhaaDoorStr8
namespace Go.Proofs.YtnjjblcigcblhaaDoor
open Go.RowKit

theorem fieldT (a b c : Value) (w : World) : (Instr.field 65 (.agg #[a, b, c]) 0).run Tryd.prog w = .ok a w ∧ (Instr.field 65 (.agg #[a, b, c]) 1).run Tryd.prog w = .ok b w := by
  constructor <;> simp [Instr.field, asAgg, run_underlying Tryd.underlying65, part, isAgg, run_underlying Tryd.underlying23, run_underlying Tryd.underlying3]
set_option maxHeartbeats 1000000 in
theorem specStreamErrors_any (a : Option Addr) (c : Nat) (xs : List Int) (w : World) (hx : Ints .i64 w w.heap.size a xs) (hm : xs.length ≤ maxLen) :
    Calls Tryd.prog 24 #[.slice a xs.length c] w fun e w' => e = .returned (.int .i64 (errOr7 xs)) ∧ Below w.heap.size w w' := by
  have HO := Lib.hid (l7Ok_any a c w.heap.size xs w hx hm)
  cases hok : codedOk xs
  · have HE := Lib.hid (errOr7_no hok)
    rw [hok] at HO
    clear hx hok
    go_enter Tryd.func24, Tryd.ntmps24
    go_wp2_with (go_at_call 45; refine HO.out.mono ?_; rintro e w' ⟨rfl, rfl⟩)
    go_ret
    exact ⟨ret_int HE.out.symm, Below.refl _ _⟩
  · have HE := Lib.hid (errOr7_yes hok)
    have HS := Lib.hid (l7Search_any a c xs w hx hok)
    rw [hok] at HO
    clear hx hok
    have hfT := fun a b c W => (fieldT a b c W).2
    go_enter Tryd.func24, Tryd.ntmps24
    go_wp2_with (first
      | (go_at_call 45; refine HO.out.mono ?_; rintro e w' ⟨rfl, rfl⟩)
      | (go_at_call 46; refine HS.out.mono ?_; rintro e w1 ⟨v, cap, rfl, _, _, b1⟩; have B1 := Lib.hid b1; clear b1))
    go_ret
    exact ⟨ret_int HE.out.symm, B1.out⟩
set_option maxHeartbeats 1000000 in
theorem specDecodeStream_new (a : Option Addr) (c : Nat) (xs : List Int) (w : World) (hx : Ints .i64 w w.heap.size a xs) (hm : xs.length ≤ maxLen) :
    Calls Tryd.prog 21 #[.slice a xs.length c] w (NewS (decOr7 xs) w) := by
  have HO := Lib.hid (l7Ok_any a c w.heap.size xs w hx hm)
  have L0 := Lib.hid (Grow.lit0 .i64 3 w w.heap.size (Nat.le_refl _))
  have B0 := Lib.hid (below_new w (.cells #[] 3))
  cases hok : codedOk xs
  · have HE := Lib.hid (decOr7_no hok)
    rw [hok] at HO
    clear hx hok
    go_enter Tryd.func21, Tryd.ntmps21
    go_wp2_with (go_at_call 45; refine HO.out.mono ?_; rintro e w' ⟨rfl, rfl⟩)
    go_ret
    rw [HE.out]
    exact ⟨_, _, _, rfl, L0.out, B0.out⟩
  · obtain ⟨l1, l2, l3, _⟩ := codedOk_parts hok
    have HE := Lib.hid (decOr7_yes hok)
    have HS := Lib.hid (l7Search_any a c xs (w.alloc (.cells #[] 3)) (hx.next B0.out) hok)
    rw [hok] at HO
    obtain ⟨l, hl⟩ : ∃ l, l = allS (prs xs) := ⟨_, rfl⟩
    obtain ⟨n, hn⟩ : ∃ n, n = xs.length / 2 - 2 := ⟨_, rfl⟩
    have hal := allS_length xs
    obtain ⟨N, hN⟩ : ∃ N, N = l.length := ⟨_, rfl⟩
    have hNn : n ≤ N := by rw [hN, hl, hal]; omega
    have hN42 : N ≤ 42 := by rw [hN, hl, hal]; omega
    have hN2 : 2 ≤ N := by rw [hN, hl, hal]; omega
    have en : (xs.length : Int) / 2 - 2 = (n : Int) := by omega
    have HF : Hid (decL7 xs = ints (l.take n)) := by show decL7 xs = _; rw [decL7, ← hl, ← hn]
    have HPost : Hid (Calls Tryd.prog 46 #[.slice a xs.length c] (w.alloc (.cells #[] 3)) fun e w' => ∃ v cap, e = .returned (.agg #[.slice v N cap, .int .i64 (errS (prs xs)), .bool true]) ∧ N ≤ cap ∧ Ints .i64 w' w'.heap.size v (ints l) ∧ Below (w.alloc (.cells #[] 3)).heap.size (w.alloc (.cells #[] 3)) w') := by
      refine HS.out.mono fun e w' h => ?_
      unfold SearchPost at h
      rw [← hl, ← hN] at h
      exact h
    have HLN : Hid ((ints (l.take n)).length = n) := by show (ints (l.take n)).length = n; rw [ints_length, List.length_take, ← hN]; omega
    have HNE : Hid (ints l ≠ []) := fun e => by
      have h := congrArg List.length e
      rw [ints_length, ← hN] at h
      simp only [List.length_nil] at h
      omega
    clear hx hok hl hn hal hN HS
    generalize errS (prs xs) = E at *
    have hfT := fun a b c W => (fieldT a b c W).1
    go_enter Tryd.func21, Tryd.ntmps21
    go_wp2_with (first
      | (go_at_call 45; refine HO.out.mono ?_; rintro e w' ⟨rfl, rfl⟩)
      | (go_at_call 46; refine HPost.out.mono ?_; rintro e w1 ⟨v, cap, rfl, hcap, hi, b1⟩; have hnc : n ≤ cap := (by omega); obtain ⟨bv, ov, rfl, _, _⟩ := hi HNE.out; have B1 := Lib.hid b1; have HI := Lib.hid hi; have HCAP := Lib.hid hcap; have I2 : Hid (Ints .i64 w1 w1.heap.size (some ⟨bv, ov, none⟩) (ints (l.take n))) := (by show Ints _ _ _ _ _; rw [ints_take]; exact hi.take); have G1 := Lib.hid (L0.out.below (Below.mono b1 (by simp))); have hs1 : w.heap.size ≤ w1.heap.size := (by have := b1.size; simp at this; omega); have HB1 := Lib.hid (B0.out.trans (b1.mono (by simp))); clear b1 hi hcap)
      | (at_builtin; refine wpList_appendA (.tmp 7) (.tmp 15) w.heap.size (some ⟨w.heap.size, 0, none⟩) (some ⟨bv, ov, none⟩) 0 0 n cap _ [] (ints (l.take n)) rfl rfl rfl rfl G1.out I2.out HLN.out (by omega) hs1 ?_; intro a5 cap5 w5 hg5 hb5 ha5; rw [Nat.zero_add, List.nil_append, ← HF.out] at hg5; obtain ⟨g5, rfl⟩ := addr_some hg5 ha5 (by simp); have HG5 := Lib.hid hg5; have HB5 := Lib.hid (HB1.out.trans hb5); clear hg5 hb5 ha5))
    go_ret
    rw [HE.out]
    exact ⟨g5, _, cap5, rfl, HG5.out, HB5.out⟩
end Go.Proofs.YtnjjblcigcblhaaDoor
