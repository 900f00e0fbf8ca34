/-
  What the transform back of an array, ForwardTransform, BackwardTransform and AddPrefix answer, for every list. Condition: the list can be read.
-/
import Derived.Test.YtkigjnjbjbnidaaTr5
import Derived.Deep.RegionHeld3
import Derived.Deep.CutRange
namespace Go.Proofs.Ytkigjnjbjbnidaa
open Go.RowKit

/-- A call's two first blocks: its boxed array and the block of its result; then its own array. -/
def BkW (w wr : World) (g : Nat) (ys : List Int) : Prop := A16 wr g ys ∧ A16 wr (w.heap.size + 1) z16 ∧ w.heap.size + 1 < g ∧ Below w.heap.size w wr
theorem BkW.set {w wr : World} {g : Nat} {ys : List Int} (h : BkW w wr g ys) (k : Nat) (v : Int) : BkW w (wr.setCell ⟨g, k, none⟩ (.int .i64 v)) g (ys.set k v) :=
  ⟨h.1.set k v, h.2.1.other k (by have := h.2.2.1; omega), h.2.2.1, h.2.2.2.setCell (by show w.heap.size ≤ g; have := h.2.2.1; omega) _⟩
theorem BkW.new {w w1 W : World} {ys : List Int} (hz : A16 w1 (w.heap.size + 1) z16) (hb : Below w.heap.size w w1) (hy : ys.length = 16)
    (hW : Hid (W = (w1.alloc (.cells (rw16 z16) 40)).setRow w1.heap.size (rw16 ys))) : BkW w W w1.heap.size ys := by
  have h3 : Below w1.heap.size w1 W := below_put (alloc_belowT w1 _) hW (Nat.le_refl _)
  exact ⟨put16 (A16.new w1 z16_len) hW hy, hz.next h3, hz.lt, Below.next hb (Nat.le_refl _) h3⟩
/-- The same while a region's order is open: its own array may be there or not. -/
def BkS (w W : World) (xs : List Int) : Prop := A16 W w.heap.size xs ∧ A16 W (w.heap.size + 1) z16 ∧ Below w.heap.size w W
theorem BkS.next {w W W' : World} {xs : List Int} (h : BkS w W xs) (hb : Below W.heap.size W W') : BkS w W' xs := ⟨h.1.next hb, h.2.1.next hb, Below.next h.2.2 (Nat.le_refl _) hb⟩
def BkG (w W : World) (xs : List Int) (G : Nat) : Prop := BkS w W xs ∧ A16 W G z16 ∧ w.heap.size + 1 < G
theorem BkS.alloc {w W : World} {xs : List Int} (h : BkS w W xs) : BkG w (W.alloc (.cells #[.int .i64 0, .int .i64 0, .int .i64 0, .int .i64 0, .int .i64 0, .int .i64 0, .int .i64 0, .int .i64 0, .int .i64 0, .int .i64 0, .int .i64 0, .int .i64 0, .int .i64 0, .int .i64 0, .int .i64 0, .int .i64 0] 40)) xs W.heap.size :=
  ⟨h.next (alloc_belowT _ _), new16 W, h.2.1.lt⟩
theorem BkG.next {w W W' : World} {xs : List Int} {G : Nat} (h : BkG w W xs G) (hb : Below W.heap.size W W') : BkG w W' xs G := ⟨h.1.next hb, h.2.1.next hb, h.2.2⟩
theorem BkG.put {w W W' : World} {xs zs : List Int} {G : Nat} (h : BkG w W xs G) (hz : zs.length = 16) (hW : Hid (W' = W.setRow G (rw16 zs))) : BkW w W' G zs ∧ A16 W' w.heap.size xs := by
  have e := h.2.2
  have ho : ∀ b, b ≠ G → W'.heap[b]? = W.heap[b]? := fun b hb => by rw [hW.out]; exact setRow_other _ _ _ _ hb
  exact ⟨⟨put16 h.2.1 hW hz, ⟨(ho _ (by omega)).trans h.1.2.1.1, z16_len⟩, e, below_put h.1.2.2 hW (by omega)⟩, ⟨(ho _ (by omega)).trans h.1.1.1, h.1.1.2⟩⟩
theorem run_load16x {W : World} {g : Nat} {xs : List Int} (hg : A16 W g xs) {o : Oper} {a : Act} (ho : o.op = .load 40 (.tmp 1) := by rfl) (hx : a.eval (.tmp 1) = .pointer (some ⟨g, 0, none⟩) := by rfl) : (execOp a.eval o).run Try.prog W = .ok (.value (.agg (rw16 xs))) W := by
  unfold execOp
  simp only [ho, hx, Instr.loadAt, Instr.sureAddr, Sem.run_bind, Sem.run_pure, Result.andThen_ok, run_loadVar_row W g 40 40 (rw16 xs) (0, 0) _ hg.1 Try.underlying40 rfl (by rw [infoPts, rw16_size, hg.2])]
theorem step_store16 {ops : Array Oper} {o : Oper} {a : Act} {w : World} {K : Act → World → Prop} {Q : Exit → Act → World → Prop} {E : Prop} (x y : Operand) (g : Nat) (xs ys : List Int) (hg : A16 w g xs) (hy16 : ys.length = 16)
    (hgd : o.guard = none) (ho : o.op = .store 40 x y) (hx : a.eval x = .pointer (some ⟨g, 0, none⟩)) (hy : a.eval y = .agg (rw16 ys))
    (h : ∀ W, Hid (W = w.setRow g (rw16 ys)) → K (a.put o.dst undef) W) : if Region.wanted o (yielded ops a.tmps) = true then Oper.wp Try.prog o a w K Q else E := by
  rw [if_pos (by simp [Region.wanted, hgd])]
  exact wp_store_row 40 x y ho g (rw16 ys) hx hy 40 (rw16 xs) hg.1 (by rw [infoPts, rw16_size, hy16]) (by rw [rw16_size, rw16_size, hg.2, hy16]) (rw16_one ys) (h _ rfl)
set_option maxHeartbeats 2000000 in
theorem backward_any (xs : List Int) (w : World) (hl : xs.length = 16) (hin : RIn xs) :
    Calls Try.prog 35 #[.agg (rw16 xs)] w fun e w' => e = .returned (.agg (rw16 (bkL xs))) ∧ Below w.heap.size w w' := by
  have HN2 : Hid (A16 ((w.alloc (.cells (rw16 xs) 40)).alloc (.cells (rw16 z16) 40)) w.heap.size xs ∧ A16 ((w.alloc (.cells (rw16 xs) 40)).alloc (.cells (rw16 z16) 40)) (w.heap.size + 1) z16) := ⟨⟨heap_prev2 _ _ _, hl⟩, ⟨heap_last2 _ _ _, z16_len⟩⟩
  have HB := Lib.hid ((alloc_belowT w (.cells (rw16 xs) 40)).trans ((alloc_belowT (w.alloc (.cells (rw16 xs) 40)) (.cells (rw16 z16) 40)).mono (by simp)))
  have HT := Lib.hid (fun W => transform_any xs 129 W hl hin res_in)
  have HR := Lib.hid (fun W => (transformRoot_any W).mono (R' := fun e w' => e = .returned (.int .i64 2) ∧ w' = W) (by rintro e w' ⟨rfl, rfl⟩; exact ⟨rfl, rfl⟩))
  have HV := Lib.hid (fun W => (residueInverse_is (a := 2) W res_in pwInv2).mono (R' := fun e w' => e = .returned (.int .i64 129) ∧ w' = W) (by rintro e w' ⟨rfl, rfl⟩; exact ⟨rfl, rfl⟩))
  have HV2 := Lib.hid (fun W => residueInverse_is (a := 16) W res_in pwInv16)
  have HF := Lib.hid (show l16 (bkF (fftL 129 xs)) = bkL xs from rfl)
  have HIn := Lib.hid (fftL_in hin 129)
  have HL := Lib.hid (fftL_len 129 xs)
  clear hl hin
  rw [← z16_row] at HN2 HB
  generalize fftL 129 xs = zs at *
  go_enter Try.func35, Try.ntmps35
  go_wp2
  generalize (w.alloc (.cells (rw16 xs) 40)).alloc (.cells #[.int .i64 0, .int .i64 0, .int .i64 0, .int .i64 0, .int .i64 0, .int .i64 0, .int .i64 0, .int .i64 0, .int .i64 0, .int .i64 0, .int .i64 0, .int .i64 0, .int .i64 0, .int .i64 0, .int .i64 0, .int .i64 0] 40) = W0 at *
  have S0 : Hid (BkS w W0.drew xs) := ⟨HN2.out.1, HN2.out.2, HB.out.drew⟩
  go_cut [3] from 5 (fun p wx => ∃ G, p = .pointer (some ⟨G, 0, none⟩) ∧ BkW w wx G zs)
  case first =>
    rename_i J0 K0 hJ0 hK0
    clear HF HIn HV2
    refine wp_region_held_drew (S := fun W => A16 W w.heap.size xs) (by kernel_rfl) S0.out.1 (fun hS => ?_)
    generalize W0.drew = W1 at *
    refine wpAnyH_take (i := 0) (v := .agg (rw16 xs)) rfl (by kernel_rfl) (by kernel_rfl) (by kernel_rfl) (fun _ _ _ h => h) (Or.inl ⟨by kernel_rfl, fun W hW => run_load16x hW⟩) hS ?_
    clear hS
    go_simp
    refine wpAnyH_ready (rs := [1, 4]) (by kernel_rfl) (by simp) (AllReadyH.cons rfl (fun K hK => ?_) (AllReadyH.cons rfl (fun K hK => ?_) AllReadyH.nil))
    · go_simp
      refine (HR.out _).mono ?_
      rintro e w' ⟨rfl, rfl⟩
      refine hK.out _ _ (by first | exact S0.out.1 | exact S0.out.1.1) (fun _ => ?_)
      clear hK K
      refine wpAnyH_ready (rs := [2, 4]) (by kernel_rfl) (by simp) (AllReadyH.cons rfl (fun K hK => ?_) (AllReadyH.cons rfl (fun K hK => ?_) AllReadyH.nil))
      · go_simp
        refine (HV.out _).mono ?_
        rintro e w' ⟨rfl, rfl⟩
        refine hK.out _ _ (by first | exact S0.out.1 | exact S0.out.1.1) (fun _ => ?_)
        clear hK K
        refine wpAnyH_ready (rs := [3, 4]) (by kernel_rfl) (by simp) (AllReadyH.cons rfl (fun K hK => ?_) (AllReadyH.cons rfl (fun K hK => ?_) AllReadyH.nil))
        · go_simp
          refine (HT.out _).mono ?_
          rintro e w4 ⟨rfl, hb⟩
          have T4 := Lib.hid (S0.out.next hb)
          refine hK.out _ _ (by first | exact T4.out.1 | exact T4.out.1.1) (fun _ => ?_)
          clear hK K
          refine wpAnyH_ready (rs := [4]) (by kernel_rfl) (by simp) (AllReadyH.cons rfl (fun K hK => ?_) AllReadyH.nil)
          have T5 := Lib.hid T4.out.alloc
          go_simp
          refine hK.out _ _ (T5.out.1.1) (fun _ => ?_)
          clear hK K
          refine wpAnyH_ready (rs := [5]) (by kernel_rfl) (by simp) (AllReadyH.cons rfl (fun K hK => ?_) AllReadyH.nil)
          refine step_store16 (.tmp 3) (.tmp 10) _ z16 zs T5.out.2.1 HL.out rfl rfl rfl rfl ?_
          intro W2 hW2
          have T6 := Lib.hid (T5.out.put HL.out hW2)
          refine hK.out _ _ T6.out.2 (fun _ => ?_)
          clear hK K hW2
          refine wpAnyH_done (by kernel_rfl) ?_ _
          refine hK0 _ _ (hJ0 _ _ ?_)
          (repeat apply Exists.intro)
          exact ⟨⟨_, rfl, T6.out.1⟩, rfl⟩
        · have T4 := Lib.hid S0.out.alloc
          go_simp
          refine hK.out _ _ (T4.out.1.1) (fun _ => ?_)
          clear hK K
          refine wpAnyH_ready (rs := [3]) (by kernel_rfl) (by simp) (AllReadyH.cons rfl (fun K hK => ?_) AllReadyH.nil)
          go_simp
          refine (HT.out _).mono ?_
          rintro e w5 ⟨rfl, hb⟩
          have T5 := Lib.hid (T4.out.next hb)
          refine hK.out _ _ (by first | exact T5.out.1 | exact T5.out.1.1) (fun _ => ?_)
          clear hK K
          refine wpAnyH_ready (rs := [5]) (by kernel_rfl) (by simp) (AllReadyH.cons rfl (fun K hK => ?_) AllReadyH.nil)
          refine step_store16 (.tmp 3) (.tmp 10) _ z16 zs T5.out.2.1 HL.out rfl rfl rfl rfl ?_
          intro W2 hW2
          have T6 := Lib.hid (T5.out.put HL.out hW2)
          refine hK.out _ _ T6.out.2 (fun _ => ?_)
          clear hK K hW2
          refine wpAnyH_done (by kernel_rfl) ?_ _
          refine hK0 _ _ (hJ0 _ _ ?_)
          (repeat apply Exists.intro)
          exact ⟨⟨_, rfl, T6.out.1⟩, rfl⟩
      · have T3 := Lib.hid S0.out.alloc
        go_simp
        refine hK.out _ _ (T3.out.1.1) (fun _ => ?_)
        clear hK K
        refine wpAnyH_ready (rs := [2]) (by kernel_rfl) (by simp) (AllReadyH.cons rfl (fun K hK => ?_) AllReadyH.nil)
        go_simp
        refine (HV.out _).mono ?_
        rintro e w' ⟨rfl, rfl⟩
        refine hK.out _ _ (by first | exact T3.out.1 | exact T3.out.1.1) (fun _ => ?_)
        clear hK K
        refine wpAnyH_ready (rs := [3]) (by kernel_rfl) (by simp) (AllReadyH.cons rfl (fun K hK => ?_) AllReadyH.nil)
        go_simp
        refine (HT.out _).mono ?_
        rintro e w5 ⟨rfl, hb⟩
        have T5 := Lib.hid (T3.out.next hb)
        refine hK.out _ _ (by first | exact T5.out.1 | exact T5.out.1.1) (fun _ => ?_)
        clear hK K
        refine wpAnyH_ready (rs := [5]) (by kernel_rfl) (by simp) (AllReadyH.cons rfl (fun K hK => ?_) AllReadyH.nil)
        refine step_store16 (.tmp 3) (.tmp 10) _ z16 zs T5.out.2.1 HL.out rfl rfl rfl rfl ?_
        intro W2 hW2
        have T6 := Lib.hid (T5.out.put HL.out hW2)
        refine hK.out _ _ T6.out.2 (fun _ => ?_)
        clear hK K hW2
        refine wpAnyH_done (by kernel_rfl) ?_ _
        refine hK0 _ _ (hJ0 _ _ ?_)
        (repeat apply Exists.intro)
        exact ⟨⟨_, rfl, T6.out.1⟩, rfl⟩
    · have T2 := Lib.hid S0.out.alloc
      go_simp
      refine hK.out _ _ (T2.out.1.1) (fun _ => ?_)
      clear hK K
      refine wpAnyH_ready (rs := [1]) (by kernel_rfl) (by simp) (AllReadyH.cons rfl (fun K hK => ?_) AllReadyH.nil)
      go_simp
      refine (HR.out _).mono ?_
      rintro e w' ⟨rfl, rfl⟩
      refine hK.out _ _ (by first | exact T2.out.1 | exact T2.out.1.1) (fun _ => ?_)
      clear hK K
      refine wpAnyH_ready (rs := [2]) (by kernel_rfl) (by simp) (AllReadyH.cons rfl (fun K hK => ?_) AllReadyH.nil)
      go_simp
      refine (HV.out _).mono ?_
      rintro e w' ⟨rfl, rfl⟩
      refine hK.out _ _ (by first | exact T2.out.1 | exact T2.out.1.1) (fun _ => ?_)
      clear hK K
      refine wpAnyH_ready (rs := [3]) (by kernel_rfl) (by simp) (AllReadyH.cons rfl (fun K hK => ?_) AllReadyH.nil)
      go_simp
      refine (HT.out _).mono ?_
      rintro e w5 ⟨rfl, hb⟩
      have T5 := Lib.hid (T2.out.next hb)
      refine hK.out _ _ (by first | exact T5.out.1 | exact T5.out.1.1) (fun _ => ?_)
      clear hK K
      refine wpAnyH_ready (rs := [5]) (by kernel_rfl) (by simp) (AllReadyH.cons rfl (fun K hK => ?_) AllReadyH.nil)
      refine step_store16 (.tmp 3) (.tmp 10) _ z16 zs T5.out.2.1 HL.out rfl rfl rfl rfl ?_
      intro W2 hW2
      have T6 := Lib.hid (T5.out.put HL.out hW2)
      refine hK.out _ _ T6.out.2 (fun _ => ?_)
      clear hK K hW2
      refine wpAnyH_done (by kernel_rfl) ?_ _
      refine hK0 _ _ (hJ0 _ _ ?_)
      (repeat apply Exists.intro)
      exact ⟨⟨_, rfl, T6.out.1⟩, rfl⟩
  case rest =>
  obtain ⟨G, rfl, hF2⟩ := hcut
  have F2 := Lib.hid hF2
  clear hF2 S0 HN2 HB HR HV
  go_wp2_with (first | (go_at_call 46; (with_reducible refine (HV2.out _).mono ?_); rintro e w3 ⟨rfl, rfl⟩) | (refine load16 (.tmp 3) G zs F2.out.1 rfl rfl rfl ?_))
  have HI := Lib.hid (fun k W (hk : k < 16) => index16 zs k W HL.out hk)
  have HS0 := Lib.hid (mixL_start (f := bkF zs) (g := el zs) HL.out fun _ _ => rfl)
  go_loopw [13] (fun i wr => ∃ k : Nat, k ≤ 16 ∧ i = .int .i64 k ∧ BkW w wr G (mixL (bkF zs) (el zs) k)) (fun i _ => 16 - (intOf i).toNat)
  case atStart => exact ⟨0, Nat.zero_le _, rfl, by rw [← HS0.out]; exact F2.out⟩
  case round =>
    obtain ⟨k, hk, rfl, hrel⟩ := hrel
    have H0 := Lib.hid hrel
    clear hrel
    by_cases hlt : k < 16
    · have hi := fun W => HI.out k W hlt
      have c0 := H0.out.1.cell hlt
      have f0 := H0.out.1.frozen k
      have HS := H0.out.set k (bkF zs k)
      rw [mixL_set _ _ k hlt] at HS
      obtain ⟨q, v, hq, r1, r1', r2, hv, _⟩ := mm_nums (HIn.out k) (res_in (a := 241))
      rw [show bkF zs k = v from hv.symm] at HS
      have HS := Lib.hid HS
      rw [hq] at r1 r1' r2
      clear hq hv HS0
      generalize el zs k = a at *
      go_wp2
      go_roundw
      case rel => exact ⟨k + 1, by omega, by go_num, HS.out⟩
      case measure => simp [intOf]; omega
    · obtain rfl : k = 16 := by omega
      have HD := Lib.hid (show rw16 (mixL (bkF zs) (el zs) 16) = rw16 (bkL xs) by rw [mixL_done, HF.out])
      go_wp2_with (first | (refine load16 (.tmp 3) G (mixL (bkF zs) (el zs) 16) H0.out.1 rfl rfl rfl ?_) | (refine store16 (.tmp 2) (.tmp 24) (w.heap.size + 1) z16 (mixL (bkF zs) (el zs) 16) H0.out.2.1 (mixL_len _ _ _) rfl rfl rfl rfl ?_; intro W2 hW2; have P1 := Lib.hid (put16 H0.out.2.1 hW2 (mixL_len _ _ _)); have B3 := Lib.hid (below_put H0.out.2.2.2 hW2 (by omega)); clear hW2))
      refine bodyPost_ret (results16 rfl _ _ (w.heap.size + 1) _ rfl P1.out) rfl ?_
      exact ⟨by rw [HD.out], B3.out⟩
theorem bkL_back {xs : List Int} (h : ptOk xs = true) : bkL xs = btOr xs := by
  rw [btOr_yes h]
  exact l16_congr fun k hk => fftL_backward (rin_ok h) hk

theorem listPostC_up {xs : List Int} {w W w' : World} {e : Ending} (h : ListPostC xs W e w') (hw : Below w.heap.size w W) : ListPostC xs w e w' := by
  obtain ⟨a, cap, h1, h2, h3, h4⟩ := h
  refine ⟨a, cap, h1, h2, fun hne => ?_, Below.next hw (Nat.le_refl _) h4⟩
  obtain ⟨b, cap', e1, e2, e3⟩ := h3 hne
  exact ⟨b, cap', e1, Nat.le_trans hw.size e2, e3⟩
theorem listPostC_nilT {w W : World} (hb : Below w.heap.size w W) : ListPostC [] w (.returned (.slice none 0 0)) W := ⟨none, 0, rfl, ⟨Nat.le_refl _, Nat.zero_le _⟩, fun h => absurd rfl h, hb⟩
theorem ptPost_yes {xs : List Int} {w w' : World} {e : Ending} (h : PtPost xs w e w') (hok : ptOk xs = true) : e = .returned (.tuple #[.agg (rw16 xs), .bool true]) ∧ Below w.heap.size w w' := by
  unfold PtPost at h
  rw [ptL_yes hok, hok] at h
  exact h
theorem ptPost_no {xs : List Int} {w w' : World} {e : Ending} (h : PtPost xs w e w') (hok : ptOk xs = false) : e = .returned (.tuple #[.agg (rw16 z16), .bool false]) ∧ Below w.heap.size w w' := by
  unfold PtPost at h
  rw [ptL_no hok, hok] at h
  exact h
end Go.Proofs.Ytkigjnjbjbnidaa
