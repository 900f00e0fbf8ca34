/-
  Arrays of eight numbers: what lies in a block, whole loads and stores, what the fast Walsh transform answers. Condition: eight numbers up to 8000.
-/
import Derived.Test.YtnnknfpkbhcghaaWs2
import Derived.Lib.SliceRun
import Derived.Deep.MidRow
import Derived.Great.BuildSlice
import Derived.BigQuiet
namespace Go.Proofs.Ytnnknfpkbhcghaa
open Go.RowKit

/-- Numbers as the cells of an array. -/
def rwE8 (xs : List Int) : Array Value := (xs.map (Value.int .i64)).toArray
theorem rwE8_size (xs : List Int) : (rwE8 xs).size = xs.length := by simp [rwE8]
theorem rwE8_one (xs : List Int) : (rwE8 xs).all (·.oneCell') = true := by
  rw [Array.all_eq_true_iff_forall_mem]
  intro v hv
  simp only [rwE8, List.mem_toArray, List.mem_map] at hv
  obtain ⟨n, _, rfl⟩ := hv
  rfl
theorem rwE8_at {xs : List Int} {k : Nat} (h : k < xs.length) : (rwE8 xs)[k]? = some (.int .i64 (el xs k)) := by
  simp [rwE8, el, h]
theorem rwE8_set (xs : List Int) (k : Nat) (v : Int) : (rwE8 xs).setIfInBounds k (.int .i64 v) = rwE8 (xs.set k v) := by
  simp [rwE8, List.map_set]
def zE8 : List Int := List.replicate 8 0
theorem zE8_len : zE8.length = 8 := by simp [zE8]
theorem zE8_row : (#[.int .i64 0, .int .i64 0, .int .i64 0, .int .i64 0, .int .i64 0, .int .i64 0, .int .i64 0, .int .i64 0] : Array Value) = rwE8 zE8 := rfl
/-- Eight numbers lie in a block. -/
def Arr8 (w : World) (b : Nat) (xs : List Int) : Prop := w.heap[b]? = some (.cells (rwE8 xs) 48 (0, 0)) ∧ xs.length = 8
theorem infoE8 : (Try.prog.info? 48).map (·.size) = some 8 := by kernel_rfl
section
variable {w w' : World} {b : Nat} {xs ys : List Int}
theorem Arr8.lt (h : Arr8 w b xs) : b < w.heap.size := (Array.getElem?_eq_some_iff.1 h.1).1
theorem Arr8.cell (h : Arr8 w b xs) {k : Nat} (hk : k < 8) : w.cell? ⟨b, k, none⟩ = some (.int .i64 (el xs k)) := by
  rw [← rwE8_at (show k < xs.length by rw [h.2]; exact hk)]
  exact cell_of_row _ _ _ _ _ _ h.1
theorem Arr8.frozen (h : Arr8 w b xs) (k : Nat) : w.frozen? ⟨b, k, none⟩ = false := by simp [World.frozen?, h.1]
theorem Arr8.set (h : Arr8 w b xs) (k : Nat) (v : Int) : Arr8 (w.setCell ⟨b, k, none⟩ (.int .i64 v)) b (xs.set k v) := by
  refine ⟨?_, by rw [List.length_set, h.2]⟩
  rw [setCell_eq_setRow w b k _ _ _ _ h.1, rwE8_set]
  exact setRow_heap _ _ _ _ _ _ h.1
theorem Arr8.other {c : Nat} {v : Value} (h : Arr8 w b xs) (k : Nat) (hc : b ≠ c) : Arr8 (w.setCell ⟨c, k, none⟩ v) b xs := ⟨(Below.heap_setCell w ⟨c, k, none⟩ v _ hc).trans h.1, h.2⟩
theorem Arr8.put (h : Arr8 w b xs) (hy : ys.length = 8) : Arr8 (w.setRow b (rwE8 ys)) b ys := ⟨setRow_heap _ _ _ _ _ _ h.1, hy⟩
end
section
variable {ops : Array Oper} {rest : List Oper} {o : Oper} {a : Act} {w : World} {Q : Exit → Act → World → Prop}
theorem loadE8 (x : Operand) (g : Nat) (xs : List Int) (hg : Arr8 w g xs)
    (hgd : o.guard = none) (ho : o.op = .load 48 x) (hx : a.eval x = .pointer (some ⟨g, 0, none⟩))
    (h : wpList Try.prog ops Q rest (a.put o.dst (.agg (rwE8 xs))) w) : wpList Try.prog ops Q (o :: rest) a w :=
  wpList_load_row hgd 48 x ho g hx 48 (rwE8 xs) (0, 0) _ hg.1 Try.underlying48 rfl (by rw [infoE8, rwE8_size, hg.2]) h
theorem storeE8 (x y : Operand) (g : Nat) (xs ys : List Int) (hg : Arr8 w g xs) (hy8 : ys.length = 8)
    (hgd : o.guard = none) (ho : o.op = .store 48 x y) (hx : a.eval x = .pointer (some ⟨g, 0, none⟩)) (hy : a.eval y = .agg (rwE8 ys))
    (h : ∀ W, Hid (W = w.setRow g (rwE8 ys)) → wpList Try.prog ops Q rest (a.put o.dst undef) W) : wpList Try.prog ops Q (o :: rest) a w :=
  wpList_store_row hgd 48 x y ho g (rwE8 ys) hx hy 48 (rwE8 xs) hg.1 (by rw [infoE8, rwE8_size, hy8]) (by rw [rwE8_size, rwE8_size, hg.2, hy8]) (rwE8_one ys) (h _ rfl)
/-- Eight numbers of a list as an array. -/
theorem loadE8_ints (x : Operand) (ad : Option Addr) (B : Nat) (xs : List Int) (hx : Ints .i64 w B ad xs) (hl : xs.length = 8)
    (hgd : o.guard = none) (ho : o.op = .load 48 x) (hxe : a.eval x = .pointer ad)
    (h : wpList Try.prog ops Q rest (a.put o.dst (.agg (rwE8 xs))) w) : wpList Try.prog ops Q (o :: rest) a w := by
  obtain ⟨b, off, rfl, _, hc⟩ := hx (by intro e; rw [e] at hl; cases hl)
  refine wpList_load_mid hgd 48 x ho b off hxe (xs.map (Value.int .i64)) _ ?_ Try.underlying48 rfl (by rw [infoE8, List.length_map, hl]) h
  intro j v hv
  have hj : j < xs.length := by
    have := (List.getElem?_eq_some_iff.1 hv).1
    rwa [List.length_map] at this
  rw [hc j hj, ← hv]
  simp [el, hj]
theorem wpList_arrayPtrE8 (x : Operand) (ad : Option Addr) (n c : Nat) (hn : n = 8)
    (hgd : o.guard = none) (ho : o.op = .sliceToArrayPointer 48 x) (hxe : a.eval x = .slice ad n c)
    (h : wpList Try.prog ops Q rest (a.put o.dst (.pointer ad)) w) : wpList Try.prog ops Q (o :: rest) a w := by
  subst hn
  refine wpList_plain hgd fun K hK => ?_
  unfold Oper.wp execOp
  simp only [ho, hxe, Instr.arrayAt, run_underlying Try.underlying48, Sem.run_bind, Sem.run_pure, Result.andThen_ok, Nat.lt_irrefl, if_false]
  exact hK _ _ h
end
theorem resultsE8 {fn : Func} {p : Tmp} (h : fn.results = #[.cell p 48]) (tmps : Array Value) (w : World) (g : Nat) (xs : List Int)
    (hp : tmps.getD p undef = .pointer (some ⟨g, 0, none⟩)) (hg : Arr8 w g xs) : (results fn tmps).run Try.prog w = .ok (.agg (rwE8 xs)) w :=
  results_cell_row (P := Try.prog) h tmps w g 48 (rwE8 xs) (0, 0) _ hp hg.1 Try.underlying48 rfl (by rw [infoE8, rwE8_size, hg.2])
theorem indexE8 (xs : List Int) (k : Nat) (w : World) (hl : xs.length = 8) (hk : k < 8) : (Instr.index 48 (.agg (rwE8 xs)) (.int .i64 k)).run Try.prog w = .ok (.int .i64 (el xs k)) w := by
  obtain ⟨i0, hi0, hz0, hz1, hz2⟩ := info_parts Try.infoInt
  have h1 : (0 : Int) ≤ (k : Int) ∧ (k : Int) < 8 := by omega
  have hv := rwE8_at (xs := xs) (k := k) (by omega)
  simp [Instr.index, asIntOf, run_underlying Try.underlying48, sizeOf, typeInfo, hi0, hz1, h1, part, isAgg, run_underlying Try.underlying3, hv]
  omega
/-- The two blocks of the call. -/
def WkW (w wr : World) (ys : List Int) : Prop := Arr8 wr w.heap.size ys ∧ Arr8 wr (w.heap.size + 1) zE8 ∧ Below w.heap.size w wr
theorem WkW.new (w : World) (xs : List Int) (h : xs.length = 8) : WkW w ((w.alloc (.cells (rwE8 xs) 48)).alloc (.cells (rwE8 zE8) 48)) xs :=
  ⟨⟨heap_prev2 _ _ _, h⟩, ⟨heap_last2 _ _ _, zE8_len⟩, ((Below.refl _ _).alloc (Nat.le_refl _) _).alloc (by simp) _⟩
theorem WkW.set {w wr : World} {ys : List Int} (h : WkW w wr ys) (k : Nat) (v : Int) : WkW w (wr.setCell ⟨w.heap.size, k, none⟩ (.int .i64 v)) (ys.set k v) :=
  ⟨h.1.set k v, h.2.1.other k (by omega), h.2.2.setCell (Nat.le_refl _) _⟩
theorem WkW.drewN {w wr : World} {ys : List Int} (h : WkW w wr ys) (n : Nat) : WkW w (wr.drewN n) ys := ⟨h.1, h.2.1, below_drewN h.2.2 n⟩
theorem and8 : ∀ k : Nat, k < 8 → ∀ h : Nat, h < 8 → bits .and .i64 (k : Int) (h : Int) = ((k &&& h : Nat) : Int) := by decide +kernel
theorem half8 : ∀ n, n < 3 → ∀ k, k < 8 → k &&& 2 ^ n = 0 → k + 2 ^ n < 8 := by decide +kernel
/-- The numbers of one place. -/
theorem wp_nums {ys : List Int} (h : inX 200000000000 ys) (i j : Nat) : ∃ p q s d : Int, p = el ys i ∧ q = el ys j ∧ s = p + q ∧ d = p - q ∧ IntKind.i64.wrap (p + q) = s ∧ wrap64 (p + q) = s ∧ IntKind.i64.wrap (p - q) = d ∧ wrap64 (p - q) = d := by
  have h1 := h i
  have h2 := h j
  exact ⟨_, _, _, _, rfl, rfl, rfl, rfl, wrapW (by omega), wrapW' (by omega), wrapW (by omega), wrapW' (by omega)⟩
theorem wn_nums {n : Nat} (h : n < 3) : ∃ H : Nat, H = 2 ^ n ∧ 1 ≤ H ∧ H ≤ 4 ∧ 2 ^ (n + 1) = H * 2 := by
  have : n = 0 ∨ n = 1 ∨ n = 2 := by omega
  rcases this with rfl | rfl | rfl <;> exact ⟨_, rfl, by decide, by decide, by decide⟩
set_option maxHeartbeats 4000000 in
theorem walshSums_any (xs : List Int) (w : World) (hl : xs.length = 8) (hin : inX 8000 xs) :
    Calls Try.prog 50 #[.agg (rwE8 xs)] w fun e w' => e = .returned (.agg (rwE8 (wsN xs 3))) ∧ Below w.heap.size w w' := by
  have HN := Lib.hid (WkW.new w xs hl)
  have HIn := Lib.hid (fun (n k : Nat) (hn : n < 3) (hk : k ≤ 8) => inX_all hin hn hk)
  have HLn := Lib.hid (fun n => (wsN_length xs n).trans hl)
  clear hl hin
  rw [← zE8_row] at HN
  go_enter Try.func50, Try.ntmps50
  go_wp2
  go_loopw [3] (fun h wr => ∃ n : Nat, n ≤ 3 ∧ h = .int .i64 ((2 ^ n : Nat) : Int) ∧ WkW w wr (wsN xs n)) (fun h _ => 16 - (intOf h).toNat)
  case atStart => exact ⟨0, by omega, rfl, HN.out⟩
  case round =>
    obtain ⟨n, hn, rfl, hrel⟩ := hrel
    have H0 := Lib.hid hrel
    clear hrel HN
    by_cases hlt : n < 3
    · obtain ⟨H, hH, h1, h4, hnx⟩ := wn_nums hlt
      have HNx := Lib.hid hnx
      have HI2 := Lib.hid (fun k hk => HIn.out n k hlt hk)
      have HLn2 := Lib.hid (HLn.out n)
      have HStep := Lib.hid (show wsN xs (n + 1) = wsS (wsN xs n) H 8 by rw [hH]; rfl)
      have HHalf := Lib.hid (fun k hk => half8 n hlt k hk)
      rw [← hH] at HI2 HHalf ⊢
      have hH8 : (H : Int) < 8 := by omega
      clear hnx hH
      generalize wsN xs n = ys at *
      go_wp2
      rename World => V0
      go_loopw [11] (fun p wr => ∃ k : Nat, k ≤ 8 ∧ p = .int .i64 k ∧ WkW w wr (wsS ys H k)) (fun p _ => 8 - (intOf p).toNat)
      case atStart => exact ⟨0, Nat.zero_le _, rfl, H0.out⟩
      case round =>
        obtain ⟨k, hk, rfl, hrel⟩ := hrel
        have H1 := Lib.hid hrel
        clear hrel
        by_cases hlk : k < 8
        · have hb := and8 k hlk H (by omega)
          have HS := Lib.hid (show wsS ys H (k + 1) = wpS (wsS ys H k) H k from rfl)
          have HNum := Lib.hid (wp_nums (HI2.out k hk) k (k + H))
          generalize wsS ys H k = zs at *
          by_cases hq : k &&& H = 0
          · rw [hq] at hb
            have hkH := HHalf.out k hlk hq
            have HS2 := Lib.hid (show wpS zs H k = (zs.set k (el zs k + el zs (k + H))).set (k + H) (el zs k - el zs (k + H)) by unfold wpS; rw [if_pos hq])
            obtain ⟨Q, hQ⟩ : ∃ Q, Q = k + H := ⟨_, rfl⟩
            rw [← hQ] at HNum HS2 hkH
            obtain ⟨p, q, s, d, hp, hqq, hs, hd, r1, r1', r2, r2'⟩ := HNum.out
            rw [← hp, ← hqq, ← hs, ← hd] at HS2
            have q1 : (k : Int) + (H : Int) = (Q : Int) := by omega
            have c0 := fun n : Nat => (H1.out.drewN n).1.cell hlk
            have c1 := fun n : Nat => (H1.out.drewN n).1.cell hkH
            rw [← hp] at c0
            rw [← hqq] at c1
            have c0' := c0 0
            have c1' := c1 0
            have f0 := fun n : Nat => (H1.out.drewN n).1.frozen k
            have G1 := Lib.hid (fun n : Nat => (H1.out.drewN n).set k s)
            have f1 := fun n : Nat => (G1.out n).1.frozen Q
            have c2 := fun n : Nat => (G1.out n).1.cell hkH
            have G2 : Hid (∀ n : Nat, WkW w (((wr.drewN n).setCell ⟨w.heap.size, k, none⟩ (.int .i64 s)).setCell ⟨w.heap.size, Q, none⟩ (.int .i64 d)) (wsS ys H (k + 1))) := fun n => by
              rw [HS.out, HS2.out]
              exact (G1.out n).set Q d
            have hQ8 : (Q : Int) < 8 := by omega
            clear hQ hq hp hqq hs hd
            go_wp2
            go_quiet (fail)
            go_wp2
            go_roundw
            case rel => exact ⟨k + 1, by omega, by go_num, G2.out _⟩
            case measure => simp [intOf]; omega
          · have HS2 := Lib.hid (show wpS zs H k = zs by unfold wpS; rw [if_neg hq])
            obtain ⟨q, hq'⟩ : ∃ q, q = k &&& H := ⟨_, rfl⟩
            rw [← hq'] at hb hq
            have hz : ((q : Int) == 0) = false := by rw [beq_eq_false_iff_ne]; omega
            clear hq' hq
            go_wp2
            go_roundw
            case rel => exact ⟨k + 1, by omega, by go_num, by rw [HS.out, HS2.out]; exact H1.out⟩
            case measure => simp [intOf]; omega
        · obtain rfl : k = 8 := by omega
          go_wp2
          go_roundw
          case rel => exact ⟨n + 1, by omega, by rw [HNx.out]; go_num, by rw [HStep.out]; exact H1.out⟩
          case measure => simp [intOf]; omega
    · obtain rfl : n = 3 := by omega
      have HL3 := Lib.hid (HLn.out 3)
      have HE : Hid (Arr8 wr w.heap.size (wsN xs 3) ∧ Arr8 wr (w.heap.size + 1) zE8 ∧ Below w.heap.size w wr) := H0.out
      obtain ⟨ys, hys⟩ : ∃ ys, ys = wsN xs 3 := ⟨_, rfl⟩
      rw [← hys] at HE HL3
      have HD := Lib.hid hys
      clear hys
      go_wp2_with (first | (refine loadE8 (.tmp 1) w.heap.size ys HE.out.1 rfl rfl rfl ?_) | (refine storeE8 (.tmp 2) (.tmp 39) (w.heap.size + 1) zE8 ys HE.out.2.1 HL3.out rfl rfl rfl rfl ?_; intro W1 hW1; have P1 : Hid (Arr8 W1 (w.heap.size + 1) ys) := (by rw [hW1.out]; exact HE.out.2.1.put HL3.out); have B1 : Hid (Below w.heap.size w W1) := (by rw [hW1.out]; exact below_setRow HE.out.2.2 (by omega) _); clear hW1))
      refine bodyPost_ret (resultsE8 rfl _ _ (w.heap.size + 1) _ rfl P1.out) rfl ?_
      exact ⟨by rw [HD.out], B1.out⟩
end Go.Proofs.Ytnnknfpkbhcghaa
