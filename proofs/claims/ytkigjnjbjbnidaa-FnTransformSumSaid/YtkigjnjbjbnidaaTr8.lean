/-
  What CyclicProduct answers, for every two lists. Condition: the lists can be read.
-/
import Derived.Test.YtkigjnjbjbnidaaTr7
namespace Go.Proofs.Ytkigjnjbjbnidaa
open Go.RowKit

/-- The product of both transforms, turned back, is the cyclic convolution. -/
theorem cyc_list {xs ys : List Int} (h : ptOk xs = true) (h' : ptOk ys = true) : bkL (tmL (ftOr xs) (ftOr ys)) = cpOr xs ys := by
  have hc := cpOr_ok h h'
  have hf := ftOr_ok hc.1
  have e : tmL (ftOr xs) (ftOr ys) = ftOr (cpOr xs ys) := by
    rw [ftOr_yes hc.1]
    refine l16_congr fun k hk => ?_
    rw [show tmF (ftOr xs) (ftOr ys) k = el (ftOr xs) k * el (ftOr ys) k % 257 from rfl, ← ft_cp_at h h' hk, hf.2 k hk]
  rw [e, bkL_back hf.1, bt_ft_list hc.1]
/-- Two boxed arrays of a call, in blocks of their own. -/
def CyW (w W : World) (g g' : Nat) (xs ys : List Int) : Prop := A16 W g xs ∧ A16 W g' ys ∧ Below w.heap.size w W
theorem CyW.next {w W W' : World} {g g' : Nat} {xs ys : List Int} (h : CyW w W g g' xs ys) (hb : Below W.heap.size W W') : CyW w W' g g' xs ys := ⟨h.1.next hb, h.2.1.next hb, Below.next h.2.2 (Nat.le_refl _) hb⟩
theorem below_putT {w w1 W : World} {ys : List Int} (hb : Below w.heap.size w w1) (hW : Hid (W = (w1.alloc (.cells (rw16 z16) 40)).setRow w1.heap.size (rw16 ys))) : Below w.heap.size w W :=
  hb.trans ((below_put (alloc_belowT w1 _) hW (Nat.le_refl _)).mono hb.size)
theorem CyW.new {w w1 w2 W : World} {g : Nat} {xs ys : List Int} (h : A16 w1 g xs) (hb : Below w.heap.size w w1) (hb2 : Below w1.heap.size w1 w2) (hy : ys.length = 16)
    (hW : Hid (W = (w2.alloc (.cells (rw16 z16) 40)).setRow w2.heap.size (rw16 ys))) : CyW w W g w2.heap.size xs ys := by
  have h3 : Below w2.heap.size w2 W := below_put (alloc_belowT w2 _) hW (Nat.le_refl _)
  exact ⟨(h.next hb2).next h3, put16 (A16.new w2 z16_len) hW hy, Below.next (Below.next hb (Nat.le_refl _) hb2) (Nat.le_refl _) h3⟩
theorem run_load16y {W : World} {g : Nat} {xs : List Int} (hg : A16 W g xs) (x : Operand) {o : Oper} {a : Act} (ho : o.op = .load 40 x) (hx : a.eval x = .pointer (some ⟨g, 0, none⟩)) : (execOp a.eval o).run Try.prog W = .ok (.value (.agg (rw16 xs))) W := by
  unfold execOp
  simp only [ho, hx, Instr.loadAt, Instr.sureAddr, Sem.run_bind, Sem.run_pure, Result.andThen_ok, run_loadVar_row W g 40 40 (rw16 xs) (0, 0) _ hg.1 Try.underlying40 rfl (by rw [infoPts, rw16_size, hg.2])]
set_option maxHeartbeats 2000000 in
theorem cyclicProduct_any (a a' : Option Addr) (c c' : Nat) (xs ys : List Int) (w : World) (hx : Ints .i64 w w.heap.size a xs) (hy : Ints .i64 w w.heap.size a' ys) :
    Calls Try.prog 22 #[.slice a xs.length c, .slice a' ys.length c'] w (ListPostC (cpOr xs ys) w) := by
  have HP := Lib.hid (pointsOf_any a c xs w hx)
  have HQ := Lib.hid (fun W (hb : Below w.heap.size w W) => pointsOf_any a' c' ys W (hy.next hb))
  clear hx hy
  by_cases hok : ptOk xs = true ∧ ptOk ys = true
  · have HE := Lib.hid (cyc_list hok.1 hok.2)
    have HL := Lib.hid (And.intro (ptOk_len hok.1) (ptOk_len hok.2))
    have HF := Lib.hid (fun W => And.intro (forward_any xs W (ptOk_len hok.1) (rin_ok hok.1)) (forward_any ys W (ptOk_len hok.2) (rin_ok hok.2)))
    rw [fftL_forward hok.1, fftL_forward hok.2] at HF
    have HT := Lib.hid (fun W => times_any (ftOr xs) (ftOr ys) W (ptOk_len (ftOr_ok hok.1).1) (rin_ok (ftOr_ok hok.1).1) (ptOk_len (ftOr_ok hok.2).1) (rin_ok (ftOr_ok hok.2).1))
    have HB := Lib.hid (fun W => backward_any (tmL (ftOr xs) (ftOr ys)) W (l16_length _) (tmL_in _ _))
    have HLi := Lib.hid (fun W => ptsList_any (bkL (tmL (ftOr xs) (ftOr ys))) W (l16_length _))
    rw [HE.out] at HB HLi
    have HP := Lib.hid (HP.out.mono (R' := fun e w' => e = .returned (.tuple #[.agg (rw16 xs), .bool true]) ∧ Below w.heap.size w w') fun _ _ h => ptPost_yes h hok.1)
    have HQ := Lib.hid (fun W hb => (HQ.out W hb).mono (R' := fun e w' => e = .returned (.tuple #[.agg (rw16 ys), .bool true]) ∧ Below W.heap.size W w') fun _ _ h => ptPost_yes h hok.2)
    clear hok HE
    generalize tmL (ftOr xs) (ftOr ys) = ts at *
    generalize ftOr xs = fs at *
    generalize ftOr ys = gs at *
    generalize cpOr xs ys = rs at *
    go_enter Try.func22, Try.ntmps22
    go_wp2_with (first | (go_at_call 30; (with_reducible refine HP.out.mono ?_); rintro e w1 ⟨rfl, hb1⟩; have B1 := Lib.hid hb1; clear hb1) | (refine store16 (.tmp 5) (.tmp 12) w1.heap.size z16 xs (new16 w1) HL.out.1 rfl rfl rfl rfl ?_; intro W1 hW1; have A1 := Lib.hid (put16 (new16 w1) hW1 HL.out.1); have B2 := Lib.hid (below_putT B1.out hW1); clear hW1) | (go_at_call 30; (with_reducible refine (HQ.out _ B2.out).mono ?_); rintro e w2 ⟨rfl, hb2⟩; have B3 := Lib.hid hb2; clear hb2) | (refine store16 (.tmp 7) (.tmp 17) w2.heap.size z16 ys (new16 w2) HL.out.2 rfl rfl rfl rfl ?_; intro W2 hW2; have C2 := Lib.hid (CyW.new A1.out B2.out B3.out HL.out.2 hW2); clear hW2))
    have C3 : Hid (CyW w W2.drew w1.heap.size w2.heap.size xs ys) := ⟨C2.out.1, C2.out.2.1, C2.out.2.2.drew⟩
    refine wp_region_held_drew (S := fun W => CyW w W w1.heap.size w2.heap.size xs ys) (by kernel_rfl) C3.out (fun hS => ?_)
    generalize W2.drew = W3 at *
    refine wpAnyH_take (i := 0) (v := .agg (rw16 xs)) rfl (by kernel_rfl) (by kernel_rfl) (by kernel_rfl) (fun _ _ _ h => h) (Or.inl ⟨by kernel_rfl, fun W hW => run_load16y hW.1 (.tmp 5) rfl rfl⟩) hS ?_
    refine wpAnyH_take (i := 2) (v := .agg (rw16 ys)) rfl (by kernel_rfl) (by kernel_rfl) (by kernel_rfl) (fun _ _ _ h => h) (Or.inl ⟨by kernel_rfl, fun W hW => run_load16y hW.2.1 (.tmp 7) rfl rfl⟩) hS ?_
    clear hS
    go_simp
    refine wpAnyH_ready (rs := [1]) (by kernel_rfl) (by simp) (AllReadyH.cons rfl (fun K hK => ?_) AllReadyH.nil)
    go_simp
    refine ((HF.out _).1).mono ?_
    rintro e w4 ⟨rfl, hb⟩
    have C4 := Lib.hid (C3.out.next hb)
    refine hK.out _ _ C4.out (fun _ => ?_)
    clear hK K hb
    refine wpAnyH_ready (rs := [3]) (by kernel_rfl) (by simp) (AllReadyH.cons rfl (fun K hK => ?_) AllReadyH.nil)
    go_simp
    refine ((HF.out _).2).mono ?_
    rintro e w5 ⟨rfl, hb⟩
    have C5 := Lib.hid (C4.out.next hb)
    refine hK.out _ _ C5.out (fun _ => ?_)
    clear hK K hb
    refine wpAnyH_ready (rs := [4]) (by kernel_rfl) (by simp) (AllReadyH.cons rfl (fun K hK => ?_) AllReadyH.nil)
    go_simp
    refine (HT.out _).mono ?_
    rintro e w6 ⟨rfl, hb⟩
    have C6 := Lib.hid (C5.out.next hb)
    refine hK.out _ _ C6.out (fun _ => ?_)
    clear hK K hb
    refine wpAnyH_ready (rs := [5]) (by kernel_rfl) (by simp) (AllReadyH.cons rfl (fun K hK => ?_) AllReadyH.nil)
    go_simp
    refine (HB.out _).mono ?_
    rintro e w7 ⟨rfl, hb⟩
    have C7 := Lib.hid (C6.out.next hb)
    refine hK.out _ _ C7.out (fun _ => ?_)
    clear hK K hb
    refine wpAnyH_ready (rs := [6]) (by kernel_rfl) (by simp) (AllReadyH.cons rfl (fun K hK => ?_) AllReadyH.nil)
    go_simp
    refine (HLi.out _).mono ?_
    rintro e w8 hp
    obtain ⟨a3, cap3, rfl, hcap3, hown3, hb3⟩ := hp
    have C8 := Lib.hid (C7.out.next hb3)
    have H3 := Lib.hid (listPostC_up ⟨a3, cap3, rfl, hcap3, hown3, hb3⟩ C7.out.2.2)
    refine hK.out _ _ C8.out (fun _ => ?_)
    clear hK K hcap3 hown3 hb3
    refine wpAnyH_ready (rs := [7]) (by kernel_rfl) (by simp) (AllReadyH.cons rfl (fun K hK => ?_) AllReadyH.nil)
    go_simp
    refine hK.out _ _ C8.out (fun _ => ?_)
    clear hK K
    refine wpAnyH_done (by kernel_rfl) ?_ _
    go_wp2
    go_ret
    exact H3.out
  · have HE : Hid (cpOr xs ys = []) := by
      show cpOr xs ys = []
      cases h1 : ptOk xs
      · exact cpOr_l h1
      · cases h2 : ptOk ys
        · exact cpOr_r h2
        · exact absurd ⟨h1, h2⟩ hok
    have HZ := Lib.hid (And.intro (ptL_len xs) (ptL_len ys))
    have hq : (ptOk xs && ptOk ys) = false := by
      cases h1 : ptOk xs <;> cases h2 : ptOk ys <;> simp_all
    unfold PtPost at HP HQ
    generalize cpOr xs ys = rs at *
    generalize ptL xs = us at *
    generalize ptL ys = vs at *
    cases h1 : ptOk xs
    · rw [h1] at HP
      generalize ptOk ys = b2 at *
      clear hok hq h1
      go_enter Try.func22, Try.ntmps22
      go_wp2_with (first | (go_at_call 30; (with_reducible refine HP.out.mono ?_); rintro e w1 ⟨rfl, hb1⟩; have B1 := Lib.hid hb1; clear hb1) | (refine store16 (.tmp 5) (.tmp 12) w1.heap.size z16 us (new16 w1) HZ.out.1 rfl rfl rfl rfl ?_; intro W1 hW1; have B2 := Lib.hid (below_putT B1.out hW1); clear hW1) | (go_at_call 30; (with_reducible refine (HQ.out _ B2.out).mono ?_); rintro e w2 ⟨rfl, hb2⟩; have B3 := Lib.hid (Below.next B2.out (Nat.le_refl _) hb2); clear hb2) | (refine store16 (.tmp 7) (.tmp 17) w2.heap.size z16 vs (new16 w2) HZ.out.2 rfl rfl rfl rfl ?_; intro W2 hW2; have B4 := Lib.hid (below_putT B3.out hW2); clear hW2))
      go_ret
      rw [HE.out]
      exact listPostC_nilT B4.out
    · rw [h1] at HP
      have h2 : ptOk ys = false := by rw [h1, Bool.true_and] at hq; exact hq
      rw [h2] at HQ
      clear hok hq h1 h2
      go_enter Try.func22, Try.ntmps22
      go_wp2_with (first | (go_at_call 30; (with_reducible refine HP.out.mono ?_); rintro e w1 ⟨rfl, hb1⟩; have B1 := Lib.hid hb1; clear hb1) | (refine store16 (.tmp 5) (.tmp 12) w1.heap.size z16 us (new16 w1) HZ.out.1 rfl rfl rfl rfl ?_; intro W1 hW1; have B2 := Lib.hid (below_putT B1.out hW1); clear hW1) | (go_at_call 30; (with_reducible refine (HQ.out _ B2.out).mono ?_); rintro e w2 ⟨rfl, hb2⟩; have B3 := Lib.hid (Below.next B2.out (Nat.le_refl _) hb2); clear hb2) | (refine store16 (.tmp 7) (.tmp 17) w2.heap.size z16 vs (new16 w2) HZ.out.2 rfl rfl rfl rfl ?_; intro W2 hW2; have B4 := Lib.hid (below_putT B3.out hW2); clear hW2))
      go_ret
      rw [HE.out]
      exact listPostC_nilT B4.out
end Go.Proofs.Ytkigjnjbjbnidaa
