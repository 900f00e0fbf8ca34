/-
  Packed lists of bits: what the words of a packed list hold; lemmas on them alone. No condition.
-/
import Derived.Test.YtnmhiagnmfpipaaWord
import Derived.Test.YtnmhiagnmfpipaaBits1
import Derived.Laws.ResultCell
import Derived.Laws.CopyOwn
namespace Go.Proofs.Ytnmhiagnmfpipaa
open Go.RowKit

/-- The 17 cells of a packed list: 16 words, then the length. -/
def IsPack (cs : Array Value) (P : Nat → Nat) (n : Nat) : Prop :=
  cs.size = 17 ∧ (∀ i, i < 16 → cs[i]? = some (.int .u64 (P i))) ∧ cs[16]? = some (.int .i64 n)
/-- The words hold the bits `f`, the first one in the highest digit. -/
def Packed (P : Nat → Nat) (f : Nat → Bool) : Prop :=
  (∀ i, i < 16 → P i < 2 ^ 64) ∧ ∀ j, j < 1024 → (P (j / 64)).testBit (63 - j % 64) = f j

def bitsF (xs : List Int) (k : Nat) (j : Nat) : Bool := decide (j < k) && decide (el xs j = 1)

theorem isPack_set {cs : Array Value} {P : Nat → Nat} {n i : Nat} (h : IsPack cs P n) (hi : i < 16) (W : Nat) :
    IsPack (cs.setIfInBounds i (.int .u64 W)) (fun j => if j = i then W else P j) n := by
  obtain ⟨h1, h2, h3⟩ := h
  refine ⟨by simpa using h1, fun j hj => ?_, ?_⟩
  · rw [Array.getElem?_setIfInBounds]
    by_cases e : i = j
    · subst e; simp [h1]; omega
    · have e' : ¬ j = i := fun x => e x.symm
      simp [e, e', h2 j hj]
  · rw [Array.getElem?_setIfInBounds]
    simp [show ¬ i = 16 by omega, h3]
theorem packed_step {P : Nat → Nat} {xs : List Int} {k : Nat} (h : Packed P (bitsF xs k)) (hk : k < 1024) :
    Packed (fun j => if j = k / 64 then orBit (P (k / 64)) (k % 64) (el xs k) else P j) (bitsF xs (k + 1)) := by
  obtain ⟨h1, h2⟩ := h
  have hd : k / 64 < 16 := by omega
  refine ⟨fun i hi => ?_, fun j hj => ?_⟩
  · by_cases e : i = k / 64
    · simp only [e, if_true]; exact orBit_lt _ _ _ (h1 _ hd)
    · simp only [e, if_false]; exact h1 i hi
  · by_cases e : j / 64 = k / 64
    · simp only [e, if_true]
      rw [orBit_test _ _ _ _ (by omega) (by omega)]
      have := h2 j hj
      rw [e] at this
      rw [this]
      unfold bitsF
      by_cases ej : j = k
      · subst ej; simp
      · have e3 : ¬ k % 64 = j % 64 := by omega
        have e4 : (j < k) ↔ (j < k + 1) := by omega
        simp [e3, e4]
    · simp only [e, if_false]
      rw [h2 j hj]
      unfold bitsF
      have e4 : (j < k) ↔ (j < k + 1) := by omega
      simp [e4]
theorem packed_zero (xs : List Int) : Packed (fun _ => 0) (bitsF xs 0) := ⟨fun _ _ => by simp, fun j hj => by simp [bitsF]⟩

set_option maxRecDepth 10000 in
theorem infoPack : (Try.prog.info? 75).map (·.size) = some 17 := by kernel_rfl
def zeroPack : Array Value := #[.int .u64 0, .int .u64 0, .int .u64 0, .int .u64 0, .int .u64 0, .int .u64 0, .int .u64 0, .int .u64 0,
  .int .u64 0, .int .u64 0, .int .u64 0, .int .u64 0, .int .u64 0, .int .u64 0, .int .u64 0, .int .u64 0, .int .i64 0]
theorem zeroPack_one : zeroPack.all (·.oneCell') = true := by kernel_rfl
theorem pack_one {cs : Array Value} {P : Nat → Nat} {n : Nat} (h : IsPack cs P n) : cs.all (·.oneCell') = true := by
  obtain ⟨h1, h2, h3⟩ := h
  rw [Array.all_eq_true]
  intro i hi
  by_cases e : i < 16
  · have := h2 i e
    rw [Array.getElem?_eq_getElem hi] at this
    injection this with this
    rw [this]; rfl
  · obtain rfl : i = 16 := by omega
    rw [Array.getElem?_eq_getElem hi] at h3
    injection h3 with h3
    rw [h3]; rfl
set_option maxRecDepth 10000 in
theorem store_pack {ops : Array Oper} {rest : List Oper} {o : Oper} {a : Act} {w : World} {Q : Exit → Act → World → Prop} (x y : Operand) (g : Nat) (cells old : Array Value)
    (hg : w.heap[g]? = some (.cells old 75 (0, 0))) (hs : cells.size = 17) (hold : old.size = 17) (h1 : cells.all (·.oneCell') = true)
    (hgd : o.guard = none) (ho : o.op = .store 75 x y) (hx : a.eval x = .pointer (some ⟨g, 0, none⟩)) (hy : a.eval y = .agg cells)
    (h : wpList Try.prog ops Q rest (a.put o.dst undef) (w.setRow g cells)) : wpList Try.prog ops Q (o :: rest) a w :=
  wpList_store_row hgd 75 x y ho g cells hx hy 75 old hg (by rw [infoPack, hs]) (by rw [hold, hs]) h1 h
set_option maxRecDepth 10000 in
theorem load_pack {ops : Array Oper} {rest : List Oper} {o : Oper} {a : Act} {w : World} {Q : Exit → Act → World → Prop} (x : Operand) (g : Nat) (cells : Array Value)
    (hg : w.heap[g]? = some (.cells cells 75 (0, 0))) (hs : cells.size = 17)
    (hgd : o.guard = none) (ho : o.op = .load 75 x) (hx : a.eval x = .pointer (some ⟨g, 0, none⟩))
    (h : wpList Try.prog ops Q rest (a.put o.dst (.agg cells)) w) : wpList Try.prog ops Q (o :: rest) a w :=
  wpList_load_row hgd 75 x ho g hx 75 cells (0, 0) _ hg Try.underlying75 rfl (by rw [infoPack, hs]) h

set_option maxRecDepth 10000 in
theorem results_pack {fn : Func} {p u : Tmp} (h : fn.results = #[.cell p 75, .tmp u]) (tmps : Array Value) (w : World) (g : Nat) (cs : Array Value)
    (hp : tmps.getD p undef = .pointer (some ⟨g, 0, none⟩)) (hg : w.heap[g]? = some (.cells cs 75 (0, 0))) (hs : cs.size = 17) :
    (results fn tmps).run Try.prog w = .ok (.tuple #[.agg cs, tmps.getD u undef]) w := by
  rw [results_cell_tmp h, hp]
  simp only [asAddr, Sem.run_pure, Result.andThen_ok]
  rw [run_loadVar_row w g 75 75 cs (0, 0) _ hg Try.underlying75 rfl (by rw [infoPack, hs])]
  rfl

end Go.Proofs.Ytnmhiagnmfpipaa
