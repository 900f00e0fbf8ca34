/-
  What marking a list and looking whether its marks still stand answer. Condition: at most 2^20 elements; the first mark is below 2^30.
-/
import Derived.Test.YtnmhiagnmfpipaaGrow
namespace Go.Proofs.Ytnmhiagnmfpipaa
open Go.RowKit

/-- The marks k, k + 1, .. of a list of integers. -/
def marks (k n : Nat) : List Int := (List.range n).map fun i => ((k + i : Nat) : Int)
theorem marks_length (k n : Nat) : (marks k n).length = n := by simp [marks]
theorem marks_el (k n i : Nat) (h : i < n) : el (marks k n) i = ((k + i : Nat) : Int) := by simp [el, marks, h]
/-- The marks of a list of bytes. -/
def bmarks (k n : Nat) : List Int := (List.range n).map fun i => (((k + i) % 256 : Nat) : Int)
theorem bmarks_length (k n : Nat) : (bmarks k n).length = n := by simp [bmarks]
theorem bmarks_el (k n i : Nat) (h : i < n) : el (bmarks k n) i = (((k + i) % 256 : Nat) : Int) := by simp [el, bmarks, h]

theorem grown_set {w w' : World} {b i : Nat} {v : Value} (h : w.grownBy w' (some b)) : w.grownBy (w'.setCell ⟨b, i, none⟩ v) (some b) :=
  ⟨h.os, h.tape, h.output, by simpa [World.setCell] using h.size, fun j hj hne => (Below.heap_setCell _ _ _ _ (fun e => hne (by rw [e]))).trans (h.block j hj hne)⟩
theorem Ints.grown {k : IntKind} {w w' : World} {B b : Nat} {a : Option Addr} {xs : List Int} (h : Ints k w B a xs) (hg : w.grownBy w' (some b)) (hB : B ≤ b) (hw : B ≤ w.heap.size) : Ints k w' B a xs :=
  h.keep fun p hp => World.cell?_of_block (hg.block p.block (by omega) (fun e => by injection e; omega))
theorem row_grown {w w' : World} {b b' t n : Nat} {f : Nat → Value} (h : w.rowIs b t n f) (hg : w.grownBy w' (some b')) (hne : b ≠ b') : w'.rowIs b t n f :=
  h.of_block (hg.block b h.lt (fun e => hne (by injection e)))
theorem below_grown {B b : Nat} {w0 w w' : World} (h : Below B w0 w) (hg : w.grownBy w' (some b)) (hb : B ≤ b) (hB : B ≤ w0.heap.size) : Below B w0 w' := h.grown hg (Nat.le_trans hB h.size) (fun k e => by injection e; omega)
theorem set_mark {w : World} {b t cap k : Nat} {f g : Nat → Value} {v : Value} (h : w.rowIs b t cap (fun j => if j < k then g j else f j)) (hv : v = g k) : (w.setCell ⟨b, k, none⟩ v).rowIs b t cap (fun j => if j < k + 1 then g j else f j) :=
  (h.set k v).congr fun j _ => by
    by_cases e : j = k
    · subst e; simp [hv]
    · simp only [e, if_false]
      by_cases h2 : j < k
      · simp [h2, Nat.lt_succ_of_lt h2]
      · simp [h2, show ¬ j < k + 1 by omega]
set_option maxRecDepth 10000 in
set_option maxHeartbeats 400000 in
theorem markIntS_row {t : TypeId} (b cap c n k0 : Nat) (f : Nat → Value) (w : World) (hr : w.rowIs b t cap f) (hn : n ≤ cap) (hl : n ≤ 1048576) (hk : k0 ≤ 1073741824) :
    Calls Try.prog 39 #[.slice (some ⟨b, 0, none⟩) n c, .int .i64 k0] w fun e w' => e = .returned (.int .i64 (k0 + n : Nat)) ∧ w'.rowIs b t cap (fun j => if j < n then .int .i64 (k0 + j : Nat) else f j) ∧ w.grownBy w' (some b) := by
  have HR := Lib.hid hr
  clear hr
  go_enter Try.func39, Try.ntmps39
  go_wp2
  go_loopw [1, 5] (fun q i wr => ∃ k : Nat, k ≤ n ∧ i = .int .i64 k ∧ q = .int .i64 (k0 + k : Nat) ∧ wr.rowIs b t cap (fun j => if j < k then .int .i64 (k0 + j : Nat) else f j) ∧ w.grownBy wr (some b)) (fun _ i _ => n - (intOf i).toNat)
  case atStart => exact ⟨0, Nat.zero_le _, rfl, rfl, HR.out.congr (by intro j hj; simp), World.grownBy.refl _ _⟩
  case round =>
    obtain ⟨k, hk', rfl, rfl, hrow, hg⟩ := hrel
    by_cases hlt : k < n
    · have hf := hrow.frozen k
      have hcv : wr.cell? ⟨b, k, none⟩ = some (f k) := by rw [hrow.cell (by omega)]; simp
      have H1 := Lib.hid (set_mark (v := .int .i64 (k0 + k : Nat)) hrow rfl)
      have H2 := Lib.hid (grown_set (i := k) (v := .int .i64 (k0 + k : Nat)) hg)
      clear hrow hg
      go_wp2
      go_roundw
      case rel => exact ⟨k + 1, by omega, by go_num, by go_num, H1.out, H2.out⟩
      case measure => simp [intOf]; omega
    · obtain rfl : n = k := by omega
      have H1 := Lib.hid hrow
      have H2 := Lib.hid hg
      clear hrow hg
      go_wp2
      go_ret
      exact ⟨rfl, H1.out, H2.out⟩
set_option maxRecDepth 10000 in
theorem markIntS_nil (a : Option Addr) (c k0 : Nat) (w : World) : Calls Try.prog 39 #[.slice a 0 c, .int .i64 k0] w fun e w' => e = .returned (.int .i64 k0) ∧ w = w' := by
  go_enter Try.func39, Try.ntmps39
  go_wp2
  refine wp_loop_rounds 1 ?_
  rw [rounds_succ]
  go_wp2
  go_ret
  exact ⟨rfl, rfl⟩
set_option maxRecDepth 10000 in
set_option maxHeartbeats 400000 in
theorem heldIntS_any (a : Option Addr) (B c n k0 : Nat) (w : World) (hx : Ints .i64 w B a (marks k0 n)) (hl : n ≤ 1048576) (hk : k0 ≤ 1073741824) :
    Calls Try.prog 40 #[.slice a n c, .int .i64 k0] w fun e w' => e = .returned (.int .i64 (k0 + n : Nat)) ∧ w = w' := by
  have HX := Lib.hid hx
  clear hx
  go_enter Try.func40, Try.ntmps40
  go_wp2
  go_loop [1, 5] (fun q i => ∃ k : Nat, k ≤ n ∧ i = .int .i64 k ∧ q = .int .i64 (k0 + k : Nat)) (fun _ i => n - (intOf i).toNat)
  case atStart => exact ⟨0, Nat.zero_le _, rfl, rfl⟩
  case round =>
    obtain ⟨k, hk', rfl, rfl⟩ := hrel
    by_cases hlt : k < n
    · obtain ⟨b, off, rfl, hb, hc⟩ := HX.out.at_ (i := k) (by rw [marks_length]; exact hlt)
      rw [marks_el _ _ _ hlt] at hc
      go_wp2
      go_round
      case rel => exact ⟨k + 1, by omega, by go_num, by go_num⟩
      case measure => simp [intOf]; omega
    · obtain rfl : n = k := by omega
      go_wp2
      go_ret
      exact ⟨rfl, rfl⟩
end Go.Proofs.Ytnmhiagnmfpipaa
