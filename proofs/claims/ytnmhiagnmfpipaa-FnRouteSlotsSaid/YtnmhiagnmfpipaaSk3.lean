/-
  What the greedy slots answer, and their model. Condition: a table that can be read.
-/
import Derived.Test.YtnmhiagnmfpipaaSk2
import Derived.StillTail
import Derived.StillTailTactics
namespace Go.Proofs.Ytnmhiagnmfpipaa
open Go.RowKit

/-- Natural numbers as integers. -/
def iL (L : List Nat) : List Int := L.map fun (n : Nat) => (n : Int)
theorem iL_len (L : List Nat) : (iL L).length = L.length := by simp [iL]
theorem iL_el (L : List Nat) (j : Nat) : el (iL L) j = (nl L j : Int) := by
  unfold el iL nl
  by_cases h : j < L.length
  · simp [h]
  · simp [h]
theorem iL_app (L : List Nat) (c : Nat) : iL (L ++ [c]) = iL L ++ [(c : Int)] := by simp [iL]
/-- The stations of ten slots, as the cells of an array. -/
def rwT (f : Nat → Nat) : Array Value := ((List.range 10).map fun c => Value.int .u16 (f c : Int)).toArray
theorem rwT_size (f : Nat → Nat) : (rwT f).size = 10 := by simp [rwT]
theorem rwT_at (f : Nat → Nat) {c : Nat} (h : c < 10) : (rwT f)[c]? = some (.int .u16 (f c : Int)) := by simp [rwT, h]
theorem rwT_set (f : Nat → Nat) {c : Nat} (h : c < 10) (d : Nat) : (rwT f).setIfInBounds c (.int .u16 (d : Int)) = rwT (fun j => if j = c then d else f j) := by
  refine Array.ext (by simp [rwT_size]) fun i h1 h2 => ?_
  rw [rwT_size] at h2
  have e : ((rwT f).setIfInBounds c (.int .u16 (d : Int)))[i]? = (rwT (fun j => if j = c then d else f j))[i]? := by
    rw [rwT_at _ h2, Array.getElem?_setIfInBounds]
    by_cases e : c = i
    · subst e; simp [rwT_size, h]
    · rw [if_neg e, rwT_at _ h2]; simp [Ne.symm e]
  rw [Array.getElem?_eq_getElem h1, Array.getElem?_eq_getElem (by rw [rwT_size]; exact h2)] at e
  exact Option.some.inj e
theorem rwT_zero : (#[.int .u16 0, .int .u16 0, .int .u16 0, .int .u16 0, .int .u16 0, .int .u16 0, .int .u16 0, .int .u16 0, .int .u16 0, .int .u16 0] : Array Value) = rwT (fun _ => 0) := rfl
/-- A schedule lies in a block. -/
def TkA (w : World) (b : Nat) (f : Nat → Nat) : Prop := w.heap[b]? = some (.cells (rwT f) 64 (0, 0))
set_option maxRecDepth 10000 in
theorem infoSched : (Try.prog.info? 64).map (·.size) = some 10 := by kernel_rfl
section
variable {w w' : World} {b : Nat} {f g : Nat → Nat}
theorem TkA.lt (h : TkA w b f) : b < w.heap.size := (Array.getElem?_eq_some_iff.1 h).1
theorem TkA.next (h : TkA w b f) (hb : Below w.heap.size w w') : TkA w' b f := (hb.block _ h.lt).trans h
theorem TkA.below {B : Nat} (h : TkA w b f) (hb : Below B w w') (hB : b < B) : TkA w' b f := (hb.block _ hB).trans h
theorem TkA.cell (h : TkA w b f) {c : Nat} (hc : c < 10) : w.cell? ⟨b, c, none⟩ = some (.int .u16 (f c : Int)) := by
  rw [← rwT_at f hc]; exact cell_of_row _ _ _ _ _ _ h
theorem TkA.frozen (h : TkA w b f) (c : Nat) : w.frozen? ⟨b, c, none⟩ = false := by simp [World.frozen?, show w.heap[b]? = _ from h]
theorem TkA.set (h : TkA w b f) {c : Nat} (hc : c < 10) (d : Nat) (he : ∀ j, j < 10 → g j = if j = c then d else f j) : TkA (w.setCell ⟨b, c, none⟩ (.int .u16 (d : Int))) b g := by
  have e : rwT g = rwT (fun j => if j = c then d else f j) := by
    unfold rwT
    rw [List.map_congr_left fun j hj => by rw [he j (List.mem_range.1 hj)]]
  show _ = some (Obj.cells (rwT g) _ _)
  rw [e, setCell_eq_setRow w b c _ _ _ _ h, rwT_set _ hc]
  exact setRow_heap _ _ _ _ _ _ h
theorem TkA.new (w : World) : TkA (w.alloc (.cells #[.int .u16 0, .int .u16 0, .int .u16 0, .int .u16 0, .int .u16 0, .int .u16 0, .int .u16 0, .int .u16 0, .int .u16 0, .int .u16 0] 64)) w.heap.size (fun _ => 0) := heap_alloc_last _ _
theorem TkA.box (w : World) : TkA (w.alloc (.cells (rwT f) 64)) w.heap.size f := heap_alloc_last _ _
theorem TkA.other {c k : Nat} {v : Value} (h : TkA w b f) (hc : b ≠ c) : TkA (w.setCell ⟨c, k, none⟩ v) b f := (Below.heap_setCell w ⟨c, k, none⟩ v _ hc).trans h
theorem TkA.drewN (h : TkA w b f) (n : Nat) : TkA (w.drewN n) b f := h
end
set_option maxRecDepth 10000 in
theorem still_loadT {ops : Array Oper} {w : World} {Q : Act → Prop} {a : Act} {o : Oper} {rest : List Oper} (x : Operand) (g : Nat) (f : Nat → Nat) (hg : TkA w g f)
    (hw : Region.wanted o (yielded ops a.tmps) = true) (ho : o.op = .load 64 x) (hx : a.eval x = .pointer (some ⟨g, 0, none⟩))
    (h : wpStill Try.prog ops w Q rest (a.put o.dst (.agg (rwT f)))) : wpStill Try.prog ops w Q (o :: rest) a := by
  refine wpStill_step fun K hK => ?_
  rw [if_pos hw]
  unfold Oper.still execOp
  simp only [ho, hx, Instr.loadAt, Instr.sureAddr, Sem.run_bind, Sem.run_pure, Result.andThen_ok, run_loadVar_row w g 64 64 (rwT f) (0, 0) _ hg Try.underlying64 rfl (by rw [infoSched, rwT_size]), Oper.stillUpon_value]
  exact hK _ h
set_option maxRecDepth 10000 in
set_option maxHeartbeats 1000000 in
theorem firstFree_is (f : Nat → Nat) (C c0 : Nat) (w : World) (hf : ∀ j, j < 10 → f j < 1024) (hC : C < 1024) (h0 : c0 < 10) (h1 : f c0 &&& C = 0) (h2 : ∀ c, c < c0 → f c &&& C ≠ 0) :
    Calls Try.prog 56 #[.agg (rwT f), .int .u16 (C : Int)] w fun e w' => e = .returned (.int .i64 (c0 : Int)) ∧ Below w.heap.size w w' := by
  have HT := Lib.hid (TkA.box (f := f) w)
  have HB := Lib.hid (alloc_belowX w (.cells (rwT f) 64))
  have HF := Lib.hid hf
  have H1 := Lib.hid h1
  have H2 := Lib.hid h2
  clear hf h1 h2
  go_enter Try.func56, Try.ntmps56
  go_wp2
  generalize w.alloc (.cells (rwT f) 64) = W0 at *
  go_loop [5] (fun i => ∃ k : Nat, k ≤ c0 ∧ i = .int .i64 (k : Int)) (fun i => c0 - (intOf i).toNat)
  case atStart => exact ⟨0, Nat.zero_le _, rfl⟩
  case round =>
    obtain ⟨k, hk, rfl⟩ := hrel
    have hc := HT.out.cell (c := k) (by omega)
    have hfk := HF.out k (by omega)
    by_cases hlt : k < c0
    · have HM := Lib.hid (fun W => setMeets_is (f k) C true W (by omega) (by omega) (decide_eq_true (H2.out k hlt)))
      generalize f k = U at *
      have hk' : (k : Int) < 10 := by omega
      go_wp2_with (go_at_call 59; ((with_reducible refine (HM.out _).mono ?_); rintro e w1 ⟨rfl, rfl⟩))
      go_round
      case rel => exact ⟨k + 1, by omega, by go_num⟩
      case measure => simp [intOf]; omega
    · obtain rfl : k = c0 := by omega
      have HM := Lib.hid (fun W => setMeets_is (f k) C false W (by omega) (by omega) (decide_eq_false (fun h => h H1.out)))
      generalize f k = U at *
      have hk' : (k : Int) < 10 := by omega
      go_wp2_with (go_at_call 59; ((with_reducible refine (HM.out _).mono ?_); rintro e w1 ⟨rfl, rfl⟩))
      go_ret
      exact ⟨rfl, HB.out⟩
theorem RowX.aside {W : World} {b c k : Nat} {v : Value} {xs : List Int} (h : RowX W b xs) (hc : b ≠ c) : RowX (W.setCell ⟨c, k, none⟩ v) b xs := World.rowIs.of_block h (Below.heap_setCell W ⟨c, k, none⟩ v _ hc)
/-- The greedy slots of a table. -/
def grL (R : List (List Bool)) : List Int := if tbB R then iL (gr (cf R) R.length) else []
theorem grL_no {R : List (List Bool)} (h : tbB R = false) : grL R = [] := by simp [grL, h]
theorem grL_yes {R : List (List Bool)} (h : tbB R = true) : grL R = iL (gr (cf R) R.length) := by simp [grL, h]
theorem gr_list (g : Nat → Nat → Bool) (n : Nat) : iL (gr g n) = (List.range n).map fun i => (grC g (gr g i) : Int) := by
  refine list_ext9 (by simp [iL_len, gr_len]) fun i hi => ?_
  rw [iL_len, gr_len] at hi
  rw [iL_el, gr_at hi]
  simp [el, hi]
set_option maxRecDepth 10000 in
set_option maxHeartbeats 2000000 in
theorem greedySlots_any (a : Option Addr) (c : Nat) (R : List (List Bool)) (w : World) (hx : TbL w w.heap.size a R) :
    Calls Try.prog 32 #[.slice a R.length c] w (ListPostC (grL R) w) := by
  have HC := Lib.hid (conflictSets_any a c R w hx)
  clear hx
  cases htb : tbB R
  · have HT := Lib.hid htb
    rw [grL_no htb]
    clear htb
    go_enter Try.func32, Try.ntmps32
    go_wp2_with fail
    refine HC.out.mono ?_
    rintro e w1 ⟨a1, n1, c1, rfl, hb, _⟩
    rw [HT.out]
    have HB := Lib.hid hb
    clear hb
    go_wp2
    go_ret
    exact listPostC_nil HB.out
  · have HT := Lib.hid htb
    have HO := Lib.hid (tbB_ok htb)
    have h10 : R.length ≤ 10 := HO.out.1
    rw [grL_yes htb, gr_list]
    clear htb
    go_enter Try.func32, Try.ntmps32
    go_wp2_with fail
    refine HC.out.mono ?_
    rintro e w1 ⟨a1, n1, c1, rfl, hb, hi⟩
    obtain ⟨rfl, hi2⟩ := hi HT.out
    rw [HT.out]
    have HB := Lib.hid hb
    have HI := Lib.hid hi2
    clear hb hi hi2
    have hmk := makeX R.length (by omega)
    have T0 := Lib.hid ((TkA.new w1).next (alloc_belowX (w1.alloc (.cells #[.int .u16 0, .int .u16 0, .int .u16 0, .int .u16 0, .int .u16 0, .int .u16 0, .int .u16 0, .int .u16 0, .int .u16 0, .int .u16 0] 64)) (.cells (madeCells #[.int .i64 0] R.length) 3)))
    have X0 := Lib.hid (rowX_made (w1.alloc (.cells #[.int .u16 0, .int .u16 0, .int .u16 0, .int .u16 0, .int .u16 0, .int .u16 0, .int .u16 0, .int .u16 0, .int .u16 0, .int .u16 0] 64)) (fun i => (grC (cf R) (gr (cf R) i) : Int)) R.length)
    have B0 := Lib.hid ((alloc_belowX w1 (.cells #[.int .u16 0, .int .u16 0, .int .u16 0, .int .u16 0, .int .u16 0, .int .u16 0, .int .u16 0, .int .u16 0, .int .u16 0, .int .u16 0] 64)).trans ((alloc_belowX (w1.alloc (.cells #[.int .u16 0, .int .u16 0, .int .u16 0, .int .u16 0, .int .u16 0, .int .u16 0, .int .u16 0, .int .u16 0, .int .u16 0, .int .u16 0] 64)) (.cells (madeCells #[.int .i64 0] R.length) 3)).mono (by simp)))
    rw [show (w1.alloc (.cells #[.int .u16 0, .int .u16 0, .int .u16 0, .int .u16 0, .int .u16 0, .int .u16 0, .int .u16 0, .int .u16 0, .int .u16 0, .int .u16 0] 64)).heap.size = w1.heap.size + 1 by simp] at X0
    go_wp2
    clear hmk
    generalize (w1.alloc (.cells #[.int .u16 0, .int .u16 0, .int .u16 0, .int .u16 0, .int .u16 0, .int .u16 0, .int .u16 0, .int .u16 0, .int .u16 0, .int .u16 0] 64)).alloc (.cells (madeCells #[.int .i64 0] R.length) 3) = W0 at T0 X0 B0 ⊢
    go_loopw [21] (fun i wr => ∃ k : Nat, k ≤ R.length ∧ i = .int .i64 (k : Int) ∧ TkA wr w1.heap.size (tkN (gr (cf R) k)) ∧ RowX wr (w1.heap.size + 1) (mkX (fun i => (grC (cf R) (gr (cf R) i) : Int)) R.length k) ∧ Below w1.heap.size w1 wr) (fun i _ => R.length - (intOf i).toNat)
    case atStart => exact ⟨0, Nat.zero_le _, rfl, T0.out, X0.out, B0.out⟩
    case round =>
      obtain ⟨k, hk, rfl, htk, hrx, hbe⟩ := hrel
      have HK := Lib.hid htk
      have HR := Lib.hid hrx
      have HE := Lib.hid hbe
      have hsz := hrx.lt
      clear htk hrx hbe T0 X0 B0
      by_cases hlt : k < R.length
      · obtain ⟨b, off, rfl, hbb, hc⟩ := sets_at (HI.out.below HE.out) hlt
        have hgl := gr_len (cf R) k
        obtain ⟨hf1, hf2, hf3⟩ := grC_facts (cf R) (gr (cf R) k)
        rw [hgl] at hf1 hf2 hf3
        obtain ⟨c0, hc0⟩ : ∃ c0, c0 = grC (cf R) (gr (cf R) k) := ⟨_, rfl⟩
        rw [← hc0] at hf1 hf2 hf3
        have hc10 : c0 < 10 := by have := cfN_le (cf R) k k; omega
        have hcs := csN_lt h10 k
        have HF := Lib.hid (fun W => firstFree_is (tkN (gr (cf R) k)) (csN R k) c0 W (fun j _ => tkN_lt (by omega)) hcs hc10
          ((meets_is (g := cf R) (L := gr (cf R) k) (i := k) (by omega)).2 (by rw [hgl]; exact hf1))
          (fun d hd h => by
            have := (meets_is (g := cf R) (L := gr (cf R) k) (i := k) (c := d) (n := R.length) (by omega)).1 h
            rw [hgl, hf3 d hd] at this; cases this))
        have htc := tkN_lt (L := gr (cf R) k) (c := c0) (by omega)
        obtain ⟨d, hd⟩ : ∃ d, d = tkN (gr (cf R) k) c0 ||| 2 ^ k := ⟨_, rfl⟩
        have HW := Lib.hid (fun W => setWith_is (tkN (gr (cf R) k) c0) k d W (by omega) (by omega) hd.symm)
        have HT2 : Hid (∀ j, j < 10 → tkN (gr (cf R) (k + 1)) j = if j = c0 then d else tkN (gr (cf R) k) j) := fun j _ => by
          rw [gr, ← hc0, tkN_snoc, hgl, hd]
        have HX2 := Lib.hid (mkX_set (fun i => (grC (cf R) (gr (cf R) i) : Int)) hlt)
        have HL2 := Lib.hid (mkX_length (fun i => (grC (cf R) (gr (cf R) i) : Int)) R.length k)
        have HC0 := Lib.hid hc0
        have hc10' : (c0 : Int) < 10 := by omega
        clear hf1 hf2 hf3 hd hc0 hgl htc
        go_wp2
        refine wp_region_still_tail 5 (by kernel_rfl) (by kernel_rfl) ?_
        simp only [List.take_succ_cons, List.take_zero, List.drop_succ_cons, List.drop_zero]
        refine still_loadT (.tmp 5) w1.heap.size _ HK.out (by kernel_rfl) rfl rfl ?_
        repeat still_step
        refine wpStill_nil ?_
        change wpList _ _ _ _ _ wr.drew
        have HK1 : Hid (TkA wr.drew w1.heap.size (tkN (gr (cf R) k))) := HK.out
        have HR1 : Hid (RowX wr.drew (w1.heap.size + 1) (mkX (fun i => (grC (cf R) (gr (cf R) i) : Int)) R.length k)) := HR.out
        have HE1 := Lib.hid HE.out.drew
        clear HK HR HE hc
        generalize wr.drew = wq at *
        go_wp2_with (first
          | (go_at_call 56; (with_reducible refine (HF.out _).mono ?_); rintro e w3 ⟨rfl, hb3⟩
             have K3 := Lib.hid (HK1.out.next hb3)
             have R3 := Lib.hid (HR1.out.next hb3)
             have E3 := Lib.hid (Below.next HE1.out (Nat.le_refl _) hb3)
             have c3 := K3.out.cell hc10
             have f3 := K3.out.frozen c0
             clear hb3)
          | (go_at_call 57; (with_reducible refine (HW.out _).mono ?_); rintro e w4 ⟨rfl, rfl⟩
             have K4 := Lib.hid (K3.out.set hc10 d HT2.out)
             have R4 := Lib.hid (R3.out.aside (v := .int .u16 (d : Int)) (c := w1.heap.size) (k := c0) (Nat.succ_ne_self _))
             have E4 := Lib.hid (E3.out.setCell (p := ⟨w1.heap.size, c0, none⟩) (Nat.le_refl _) (.int .u16 (d : Int)))
             have hl4 : k < (mkX (fun i => (grC (cf R) (gr (cf R) i) : Int)) R.length k).length := by rw [HL2.out]; exact hlt
             have c4 := R4.out.cell hl4
             have f4 := R4.out.frozen k
             have R5 := Lib.hid (R4.out.set hl4 (c0 : Int))
             have K5 := Lib.hid (K4.out.other (c := w1.heap.size + 1) (k := k) (v := .int .i64 (c0 : Int)) (Nat.ne_of_lt (Nat.lt_succ_self _)))
             have E5 := Lib.hid (E4.out.setCell (p := ⟨w1.heap.size + 1, k, none⟩) (Nat.le_succ _) (.int .i64 (c0 : Int)))))
        go_roundw
        case rel => exact ⟨k + 1, by omega, by go_num, K5.out, by rw [← HX2.out, ← HC0.out]; exact R5.out, E5.out⟩
        case measure => simp [intOf]; omega
      · obtain rfl : R.length = k := by omega
        have HR2 : Hid (RowX wr (w1.heap.size + 1) ((List.range R.length).map fun i => (grC (cf R) (gr (cf R) i) : Int))) := by
          show RowX _ _ _
          rw [← mkX_done]; exact HR.out
        go_wp2
        go_ret
        exact rowX_post HR2.out (by simp; unfold maxLen; omega) (by have := HB.out.size; omega) (HB.out.trans (HE.out.mono HB.out.size)) (by simp)
/-- The model. -/
theorem cfFree_next {g : Nat → Nat → Bool} {L : List Nat} {i c j : Nat} (h : cfFree g L i c j = true) (h1 : (g i j && decide (nl L j = c)) = false) : cfFree g L i c (j + 1) = true := by
  rw [cfFree, h, h1]; rfl
theorem cfFree_bad {g : Nat → Nat → Bool} {L : List Nat} {i c j n : Nat} (hj : j < n) (h1 : (g i j && decide (nl L j = c)) = true) : cfFree g L i c n = false := by
  rw [Bool.eq_false_iff]
  intro h
  rw [Bool.and_eq_true, decide_eq_true_eq] at h1
  exact cfFree_iff.1 h j hj h1.1 h1.2
end Go.Proofs.Ytnmhiagnmfpipaa
