/-
  Arrays of sixteen numbers: what lies in a block, whole loads and stores, what a list's test and copy, the order of reversed digits answer. Conditions: lists that can be read; sixteen numbers.
-/
import Derived.Test.YtkigjnjbjbnidaaTr1
import Derived.Test.YtkigjnjbjbnidaaSliceFns
import Derived.Lib.SliceRun
import Derived.Deep.MidRow
import Derived.Great.BuildSlice
namespace Go.Proofs.Ytkigjnjbjbnidaa
open Go.RowKit

/-- Numbers as the cells of an array. -/
def rw16 (xs : List Int) : Array Value := (xs.map (Value.int .i64)).toArray
theorem rw16_size (xs : List Int) : (rw16 xs).size = xs.length := by simp [rw16]
theorem rw16_one (xs : List Int) : (rw16 xs).all (·.oneCell') = true := by
  rw [Array.all_eq_true_iff_forall_mem]
  intro v hv
  simp only [rw16, List.mem_toArray, List.mem_map] at hv
  obtain ⟨n, _, rfl⟩ := hv
  rfl
theorem rw16_at {xs : List Int} {k : Nat} (h : k < xs.length) : (rw16 xs)[k]? = some (.int .i64 (el xs k)) := by
  simp [rw16, el, h]
theorem rw16_set (xs : List Int) (k : Nat) (v : Int) : (rw16 xs).setIfInBounds k (.int .i64 v) = rw16 (xs.set k v) := by
  simp [rw16, List.map_set]
def z16 : List Int := List.replicate 16 0
theorem z16_len : z16.length = 16 := by simp [z16]
theorem z16_row : (#[.int .i64 0, .int .i64 0, .int .i64 0, .int .i64 0, .int .i64 0, .int .i64 0, .int .i64 0, .int .i64 0, .int .i64 0, .int .i64 0, .int .i64 0, .int .i64 0, .int .i64 0, .int .i64 0, .int .i64 0, .int .i64 0] : Array Value) = rw16 z16 := rfl
/-- Sixteen numbers lie in a block. -/
def A16 (w : World) (b : Nat) (xs : List Int) : Prop := w.heap[b]? = some (.cells (rw16 xs) 40 (0, 0)) ∧ xs.length = 16
theorem infoPts : (Try.prog.info? 40).map (·.size) = some 16 := by kernel_rfl
theorem builtPts : Try.prog.built 40 [] = some (rw16 z16) := by kernel_rfl
section
variable {w w' : World} {b : Nat} {xs ys : List Int}
theorem A16.lt (h : A16 w b xs) : b < w.heap.size := (Array.getElem?_eq_some_iff.1 h.1).1
theorem A16.next (h : A16 w b xs) (hb : Below w.heap.size w w') : A16 w' b xs := ⟨(hb.block _ h.lt).trans h.1, h.2⟩
theorem A16.cell (h : A16 w b xs) {k : Nat} (hk : k < 16) : w.cell? ⟨b, k, none⟩ = some (.int .i64 (el xs k)) := by
  rw [← rw16_at (show k < xs.length by rw [h.2]; exact hk)]
  exact cell_of_row _ _ _ _ _ _ h.1
theorem A16.frozen (h : A16 w b xs) (k : Nat) : w.frozen? ⟨b, k, none⟩ = false := by simp [World.frozen?, h.1]
theorem A16.set (h : A16 w b xs) (k : Nat) (v : Int) : A16 (w.setCell ⟨b, k, none⟩ (.int .i64 v)) b (xs.set k v) := by
  refine ⟨?_, by rw [List.length_set, h.2]⟩
  rw [setCell_eq_setRow w b k _ _ _ _ h.1, rw16_set]
  exact setRow_heap _ _ _ _ _ _ h.1
theorem A16.other {c : Nat} {v : Value} (h : A16 w b xs) (k : Nat) (hc : b ≠ c) : A16 (w.setCell ⟨c, k, none⟩ v) b xs := ⟨(Below.heap_setCell w ⟨c, k, none⟩ v _ hc).trans h.1, h.2⟩
theorem A16.new (w : World) (h : xs.length = 16) : A16 (w.alloc (.cells (rw16 xs) 40)) w.heap.size xs := ⟨heap_alloc_last _ _, h⟩
theorem A16.put (h : A16 w b xs) (hy : ys.length = 16) : A16 (w.setRow b (rw16 ys)) b ys := ⟨setRow_heap _ _ _ _ _ _ h.1, hy⟩
theorem A16.ints (h : A16 w b xs) : Ints .i64 w w.heap.size (some ⟨b, 0, none⟩) xs := fun _ => ⟨b, 0, rfl, h.lt, fun i hi => by rw [Nat.zero_add]; exact h.cell (by rw [← h.2]; exact hi)⟩
end
section
variable {ops : Array Oper} {rest : List Oper} {o : Oper} {a : Act} {w : World} {Q : Exit → Act → World → Prop}
theorem load16 (x : Operand) (g : Nat) (xs : List Int) (hg : A16 w g xs)
    (hgd : o.guard = none) (ho : o.op = .load 40 x) (hx : a.eval x = .pointer (some ⟨g, 0, none⟩))
    (h : wpList Try.prog ops Q rest (a.put o.dst (.agg (rw16 xs))) w) : wpList Try.prog ops Q (o :: rest) a w :=
  wpList_load_row hgd 40 x ho g hx 40 (rw16 xs) (0, 0) _ hg.1 Try.underlying40 rfl (by rw [infoPts, rw16_size, hg.2]) h
theorem store16 (x y : Operand) (g : Nat) (xs ys : List Int) (hg : A16 w g xs) (hy16 : ys.length = 16)
    (hgd : o.guard = none) (ho : o.op = .store 40 x y) (hx : a.eval x = .pointer (some ⟨g, 0, none⟩)) (hy : a.eval y = .agg (rw16 ys))
    (h : ∀ W, Hid (W = w.setRow g (rw16 ys)) → wpList Try.prog ops Q rest (a.put o.dst undef) W) : wpList Try.prog ops Q (o :: rest) a w :=
  wpList_store_row hgd 40 x y ho g (rw16 ys) hx hy 40 (rw16 xs) hg.1 (by rw [infoPts, rw16_size, hy16]) (by rw [rw16_size, rw16_size, hg.2, hy16]) (rw16_one ys) (h _ rfl)
/-- Sixteen numbers of a list as an array. -/
theorem load16_ints (x : Operand) (ad : Option Addr) (B : Nat) (xs : List Int) (hx : Ints .i64 w B ad xs) (hl : xs.length = 16)
    (hgd : o.guard = none) (ho : o.op = .load 40 x) (hxe : a.eval x = .pointer ad)
    (h : wpList Try.prog ops Q rest (a.put o.dst (.agg (rw16 xs))) w) : wpList Try.prog ops Q (o :: rest) a w := by
  obtain ⟨b, off, rfl, _, hc⟩ := hx (by intro e; rw [e] at hl; cases hl)
  refine wpList_load_mid hgd 40 x ho b off hxe (xs.map (Value.int .i64)) _ ?_ Try.underlying40 rfl (by rw [infoPts, List.length_map, hl]) h
  intro j v hv
  have hj : j < xs.length := by
    have := (List.getElem?_eq_some_iff.1 hv).1
    rwa [List.length_map] at this
  rw [hc j hj, ← hv]
  simp [el, hj]
theorem wpList_arrayPtr (x : Operand) (ad : Option Addr) (n c : Nat) (hn : n = 16)
    (hgd : o.guard = none) (ho : o.op = .sliceToArrayPointer 40 x) (hxe : a.eval x = .slice ad n c)
    (h : wpList Try.prog ops Q rest (a.put o.dst (.pointer ad)) w) : wpList Try.prog ops Q (o :: rest) a w := by
  subst hn
  refine wpList_plain hgd fun K hK => ?_
  unfold Oper.wp execOp
  simp only [ho, hxe, Instr.arrayAt, run_underlying Try.underlying40, Sem.run_bind, Sem.run_pure, Result.andThen_ok, Nat.lt_irrefl, if_false]
  exact hK _ _ h
theorem build16 (hgd : o.guard = none) (ho : o.op = .build 40 #[])
    (h : wpList Try.prog ops Q rest (a.put o.dst (.agg (rw16 z16))) w) : wpList Try.prog ops Q (o :: rest) a w :=
  wpList_buildTo hgd 40 #[] ho _ rfl (rw16 z16) (by simpa using builtPts) h
end
theorem results16 {fn : Func} {p : Tmp} (h : fn.results = #[.cell p 40]) (tmps : Array Value) (w : World) (g : Nat) (xs : List Int)
    (hp : tmps.getD p undef = .pointer (some ⟨g, 0, none⟩)) (hg : A16 w g xs) : (results fn tmps).run Try.prog w = .ok (.agg (rw16 xs)) w :=
  results_cell_row (P := Try.prog) h tmps w g 40 (rw16 xs) (0, 0) _ hp hg.1 Try.underlying40 rfl (by rw [infoPts, rw16_size, hg.2])
theorem results16b {fn : Func} {p u : Tmp} (h : fn.results = #[.cell p 40, .tmp u]) (tmps : Array Value) (w : World) (g : Nat) (xs : List Int)
    (hp : tmps.getD p undef = .pointer (some ⟨g, 0, none⟩)) (hg : A16 w g xs) : (results fn tmps).run Try.prog w = .ok (.tuple #[.agg (rw16 xs), tmps.getD u undef]) w := by
  rw [results_cell_tmp h, hp]
  simp only [asAddr, Sem.run_pure, Result.andThen_ok]
  rw [run_loadVar_row w g 40 40 (rw16 xs) (0, 0) _ hg.1 Try.underlying40 rfl (by rw [infoPts, rw16_size, hg.2])]
  rfl
theorem index16 (xs : List Int) (k : Nat) (w : World) (hl : xs.length = 16) (hk : k < 16) : (Instr.index 40 (.agg (rw16 xs)) (.int .i64 k)).run Try.prog w = .ok (.int .i64 (el xs k)) w := by
  obtain ⟨i0, hi0, hz0, hz1, hz2⟩ := info_parts Try.infoInt
  have h1 : (0 : Int) ≤ (k : Int) ∧ (k : Int) < 16 := by omega
  have hv := rw16_at (xs := xs) (k := k) (by omega)
  simp [Instr.index, asIntOf, run_underlying Try.underlying40, sizeOf, typeInfo, hi0, hz1, h1, part, isAgg, run_underlying Try.underlying3, hv]
  omega

/-- The numbers of a list that is tested: zeros if it is not valid. -/
def ptL (xs : List Int) : List Int := if ptOk xs then xs else z16
theorem ptL_yes {xs : List Int} (h : ptOk xs = true) : ptL xs = xs := by simp [ptL, h]
theorem ptL_no {xs : List Int} (h : ptOk xs = false) : ptL xs = z16 := by simp [ptL, h]
theorem ptL_len (xs : List Int) : (ptL xs).length = 16 := by
  cases h : ptOk xs
  · rw [ptL_no h, z16_len]
  · rw [ptL_yes h, ptOk_len h]
def PtPost (xs : List Int) (w : World) (e : Ending) (w' : World) : Prop := e = .returned (.tuple #[.agg (rw16 (ptL xs)), .bool (ptOk xs)]) ∧ Below w.heap.size w w'
theorem below_put {w W W' : World} {xs : List Int} {g : Nat} (hb : Below w.heap.size w W) (h : Hid (W' = W.setRow g (rw16 xs))) (hg : w.heap.size ≤ g) : Below w.heap.size w W' := by
  rw [h.out]; exact below_setRow hb hg _
theorem put16 {W W' : World} {xs ys : List Int} {g : Nat} (h : A16 W g xs) (hW : Hid (W' = W.setRow g (rw16 ys))) (hy : ys.length = 16) : A16 W' g ys := by
  rw [hW.out]; exact h.put hy
theorem new16 (w : World) : A16 (w.alloc (.cells #[.int .i64 0, .int .i64 0, .int .i64 0, .int .i64 0, .int .i64 0, .int .i64 0, .int .i64 0, .int .i64 0, .int .i64 0, .int .i64 0, .int .i64 0, .int .i64 0, .int .i64 0, .int .i64 0, .int .i64 0, .int .i64 0] 40)) w.heap.size z16 := A16.new w z16_len
theorem alloc_belowT (w : World) (o : Obj) : Below w.heap.size w (w.alloc o) := (Below.refl _ _).alloc (Nat.le_refl _) o
set_option maxHeartbeats 1000000 in
theorem pointsOf_any (a : Option Addr) (c : Nat) (xs : List Int) (w : World) (hx : Ints .i64 w w.heap.size a xs) :
    Calls Try.prog 30 #[.slice a xs.length c] w (PtPost xs w) := by
  have HN := Lib.hid (new16 w)
  have HB := Lib.hid (alloc_belowT w (.cells #[.int .i64 0, .int .i64 0, .int .i64 0, .int .i64 0, .int .i64 0, .int .i64 0, .int .i64 0, .int .i64 0, .int .i64 0, .int .i64 0, .int .i64 0, .int .i64 0, .int .i64 0, .int .i64 0, .int .i64 0, .int .i64 0] 40))
  have HX := Lib.hid (hx.below HB.out)
  clear hx
  by_cases hl : xs.length = 16
  · have HL := Lib.hid hl
    have z : ((xs.length : Int) != 16) = false := by rw [bne_eq_false_iff_eq]; omega
    clear hl
    go_enter Try.func30, Try.ntmps30
    go_wp2
    clear z
    generalize w.alloc (.cells #[.int .i64 0, .int .i64 0, .int .i64 0, .int .i64 0, .int .i64 0, .int .i64 0, .int .i64 0, .int .i64 0, .int .i64 0, .int .i64 0, .int .i64 0, .int .i64 0, .int .i64 0, .int .i64 0, .int .i64 0, .int .i64 0] 40) = W0 at *
    go_loop [12] (fun i => ∃ k : Nat, k ≤ xs.length ∧ i = .int .i64 k ∧ ptTo xs k) (fun i => xs.length - (intOf i).toNat)
    case atStart => exact ⟨0, Nat.zero_le _, rfl, fun i hi => absurd hi (by omega)⟩
    case round =>
      obtain ⟨k, hk, rfl, hgood⟩ := hrel
      have HG := Lib.hid hgood
      have hk2 : k ≤ 16 := Nat.le_trans hk (Nat.le_of_eq HL.out)
      clear hgood
      by_cases hlt : k < xs.length
      · obtain ⟨b, off, rfl, hb, hc⟩ := HX.out.at_ hlt
        by_cases h0 : el xs k < 0
        · have HE := Lib.hid (ptOk_bad hlt (by simp [pt]; omega))
          go_wp2_with (first | (refine build16 rfl rfl ?_) | (refine store16 (.tmp 2) (.tmp 22) w.heap.size z16 z16 HN.out z16_len rfl rfl rfl rfl ?_; intro W1 hW1; have P1 := Lib.hid (put16 HN.out hW1 z16_len); have B1 := Lib.hid (below_put HB.out hW1 (Nat.le_refl _)); clear hW1))
          refine bodyPost_ret (results16b rfl _ _ w.heap.size z16 rfl P1.out) rfl ?_
          exact ⟨by rw [ptL_no HE.out, HE.out]; rfl, B1.out⟩
        · by_cases h1 : 257 ≤ el xs k
          · have HE := Lib.hid (ptOk_bad hlt (by simp [pt]; omega))
            go_wp2_with (first | (refine build16 rfl rfl ?_) | (refine store16 (.tmp 2) (.tmp 22) w.heap.size z16 z16 HN.out z16_len rfl rfl rfl rfl ?_; intro W1 hW1; have P1 := Lib.hid (put16 HN.out hW1 z16_len); have B1 := Lib.hid (below_put HB.out hW1 (Nat.le_refl _)); clear hW1))
            refine bodyPost_ret (results16b rfl _ _ w.heap.size z16 rfl P1.out) rfl ?_
            exact ⟨by rw [ptL_no HE.out, HE.out]; rfl, B1.out⟩
          · have HE : Hid (ptTo xs (k + 1)) := ptTo_next HG.out (by simp [pt]; omega)
            go_wp2
            go_round
            case rel => exact ⟨k + 1, by omega, by go_num, HE.out⟩
            case measure => simp [intOf]; omega
      · obtain rfl : xs.length = k := by omega
        have HE := Lib.hid (ptOk_good HG.out HL.out)
        go_wp2_with (first | (refine wpList_arrayPtr (.tmp 24) a xs.length c HL.out rfl rfl rfl ?_) | (refine load16_ints (.tmp 25) a _ xs HX.out HL.out rfl rfl rfl ?_) | (refine store16 (.tmp 2) (.tmp 26) w.heap.size z16 xs HN.out HL.out rfl rfl rfl rfl ?_; intro W1 hW1; have P1 := Lib.hid (put16 HN.out hW1 HL.out); have B1 := Lib.hid (below_put HB.out hW1 (Nat.le_refl _)); clear hW1))
        refine bodyPost_ret (results16b rfl _ _ w.heap.size xs rfl P1.out) rfl ?_
        exact ⟨by rw [ptL_yes HE.out, HE.out]; rfl, B1.out⟩
  · have HE := Lib.hid (ptOk_lenNo hl)
    have z : ((xs.length : Int) != 16) = true := by rw [bne_iff_ne]; omega
    clear hl
    go_enter Try.func30, Try.ntmps30
    go_wp2_with (first | (refine build16 rfl rfl ?_) | (refine store16 (.tmp 2) (.tmp 9) w.heap.size z16 z16 HN.out z16_len rfl rfl rfl rfl ?_; intro W1 hW1; have P1 := Lib.hid (put16 HN.out hW1 z16_len); have B1 := Lib.hid (below_put HB.out hW1 (Nat.le_refl _)); clear hW1))
    refine bodyPost_ret (results16b rfl _ _ w.heap.size z16 rfl P1.out) rfl ?_
    exact ⟨by rw [ptL_no HE.out, HE.out]; rfl, B1.out⟩

set_option maxHeartbeats 400000 in
theorem clone16_any (b c : Nat) (xs : List Int) (w : World) (hx : A16 w b xs) :
    Calls Try.prog 44 #[.slice (some ⟨b, 0, none⟩) 16 c] w (ListPostC xs w) := by
  have IA := Lib.hid (fun o => hx.ints.below (alloc_belowT w o))
  have BA := Lib.hid (fun o => alloc_belowT w o)
  have hn : ∀ W, (binOp .eql 26 (.slice (some ⟨b, 0, none⟩) 16 c) (.slice none 0 0)).run Try.prog W = .ok (.bool false) W := fun W => Lib.run_eql_slice_nil W 26 3 (some ⟨b, 0, none⟩) 16 c 0 0 Try.underlying26
  have HL := Lib.hid hx.2
  clear hx
  go_enter Try.func44, Try.ntmps44
  go_wp2_with (at_builtin; refine wpList_appendA (.tmp 5) (.tmp 6) w.heap.size (some ⟨w.heap.size, 0, none⟩) (some ⟨b, 0, none⟩) 0 0 16 c w.heap.size [] xs rfl rfl rfl rfl (Grow.lit0 _ _ _ _ (Nat.le_refl _)) (IA.out _) HL.out (by omega) (by simp) ?_; intro a4 cap4 w4 hg4 hb4 _; rw [Nat.zero_add, List.nil_append] at hg4; have HG4 := Lib.hid hg4; have HB4 := Lib.hid ((BA.out _).trans hb4); clear hg4 hb4)
  go_ret
  exact listPostC_grow HG4.out HB4.out
set_option maxHeartbeats 400000 in
theorem ptsList_any (xs : List Int) (w : World) (hl : xs.length = 16) : Calls Try.prog 32 #[.agg (rw16 xs)] w (ListPostC xs w) := by
  have HC := Lib.hid (clone16_any w.heap.size 16 xs _ (A16.new w hl))
  have HB := Lib.hid (alloc_belowT w (.cells (rw16 xs) 40))
  clear hl
  go_enter Try.func32, Try.ntmps32
  go_wp2_with (go_at_call 44; refine HC.out.mono ?_; rintro e w1 hp; obtain ⟨a1, cap1, rfl, hcap, hown, hb1⟩ := hp; have H1 := Lib.hid hown; have H2 := Lib.hid hcap; have H3 := Lib.hid hb1; clear hcap hown hb1)
  go_ret
  exact ⟨_, _, rfl, H2.out, fun hne => by obtain ⟨b, cap', e1, e2, e3⟩ := H1.out hne; exact ⟨b, cap', e1, Nat.le_trans HB.out.size e2, e3⟩, Below.next HB.out (Nat.le_refl _) H3.out⟩
end Go.Proofs.Ytkigjnjbjbnidaa
