/-
  What one step of the powers writes into another list, and what LinksMeet, PowerStep and LeastPowers answer. Conditions: rows and lists can be read; the step: valid links and powers, the other list lies in a block of its own.
-/
import Derived.Test.YtgdfjbdpidileaaPw2
import Derived.Test.YtgdfjbdpidileaaSliceFns
import Derived.Lib.BufferOwn
namespace Go.Proofs.Ytgdfjbdpidileaa
open Go.RowKit

/-- The first k numbers of S, then those of X. -/
def ovr (S X : List Int) (k : Nat) : List Int := S.take k ++ X.drop k
theorem ovr_length {S X : List Int} {k : Nat} (h : S.length = X.length) (hk : k ≤ X.length) : (ovr S X k).length = X.length := by
  simp [ovr]; omega
theorem ovr_zero {S X : List Int} : ovr S X 0 = X := by simp [ovr]
theorem ovr_all {S X : List Int} (h : S.length = X.length) : ovr S X X.length = S := by simp [ovr, ← h]
theorem ovr_set {S X : List Int} {k : Nat} {v : Int} (h : S.length = X.length) (hk : k < X.length) (hv : v = el S k) : (ovr S X k).set k v = ovr S X (k + 1) := by
  refine list_ext9 (by rw [List.length_set, ovr_length h (by omega), ovr_length h (by omega)]) fun i hi => ?_
  rw [List.length_set, ovr_length h (by omega)] at hi
  have g : ∀ m, m ≤ X.length → i < X.length → el (ovr S X m) i = if i < m then el S i else el X i := fun m hm hi => by
    unfold ovr el
    by_cases e : i < m
    · rw [if_pos e, List.getD_eq_getElem?_getD, List.getElem?_append_left (by simp; omega), List.getElem?_take_of_lt e, List.getD_eq_getElem?_getD]
    · rw [if_neg e, List.getD_eq_getElem?_getD, List.getElem?_append_right (by simp; omega), List.getElem?_drop, List.getD_eq_getElem?_getD]
      rw [show m + (i - (S.take m).length) = i by simp; omega]
  rw [g (k + 1) (by omega) hi]
  by_cases e : i = k
  · subst e
    rw [if_pos (by omega), hv]
    unfold el
    rw [List.getD_eq_getElem?_getD, List.getElem?_set_self (by rw [ovr_length h (by omega)]; omega)]
    rfl
  · have e2 : el ((ovr S X k).set k v) i = el (ovr S X k) i := by
      unfold el
      rw [List.getD_eq_getElem?_getD, List.getElem?_set_ne (fun h => e h.symm), List.getD_eq_getElem?_getD]
    rw [e2, g k (by omega) hi]
    by_cases e3 : i < k
    · rw [if_pos e3, if_pos (by omega)]
    · rw [if_neg e3, if_neg (by omega)]
/-- A box that holds links. -/
structure BoxC (W : World) (q : Nat) (a : Option Addr) (n c : Nat) (N T : Int) : Prop where
  g : W.cell? ⟨q, 0, none⟩ = some (.slice a n c)
  n : W.cell? ⟨q, 1, none⟩ = some (.int .i64 N)
  t : W.cell? ⟨q, 2, none⟩ = some (.int .i64 T)
  lt : q < W.heap.size
section
variable {w W W' : World} {q b : Nat} {a : Option Addr} {n c : Nat} {N T : Int}
theorem LBox.box (h : LBox w W q a n c N T) : BoxC W q a n c N T := ⟨h.g, h.n, h.t, h.lt⟩
theorem BoxC.keep (h : BoxC W q a n c N T) (hk : W'.heap[q]? = W.heap[q]?) (hs : W.heap.size ≤ W'.heap.size) : BoxC W' q a n c N T :=
  ⟨by rw [World.cell?_of_block hk]; exact h.g, by rw [World.cell?_of_block hk]; exact h.n, by rw [World.cell?_of_block hk]; exact h.t, Nat.lt_of_lt_of_le h.lt hs⟩
theorem BoxC.next (h : BoxC W q a n c N T) (hb : Below W.heap.size W W') : BoxC W' q a n c N T := h.keep (hb.block q h.lt) hb.size
theorem BoxC.grown (h : BoxC W q a n c N T) (hg : W.grownBy W' (some b)) (hne : q ≠ b) : BoxC W' q a n c N T := h.keep (hg.block q h.lt (fun e => hne (by injection e))) hg.size
theorem RowsL.grown {R : List (List Int)} {B : Nat} (h : RowsL W B a R) (hg : W.grownBy W' (some b)) (hB : B ≤ b) (hs : B ≤ W.heap.size) : RowsL W' W'.heap.size a R :=
  (h.below (⟨hg.os, hg.tape, hg.output, hg.size, fun j hj => hg.block j (by omega) (fun e => by injection e; omega)⟩ : Below B W W')).more (Nat.le_trans hs hg.size)
theorem RowX.grown {xs : List Int} {b' : Nat} (h : RowX W b xs) (hg : W.grownBy W' (some b')) (hne : b ≠ b') : RowX W' b xs := World.rowIs.of_block h (hg.block b h.lt (fun e => hne (by injection e)))
end
/-- A list that can be read, whatever happens to block b. -/
def IntsBut (w : World) (b : Nat) (v : Option Addr) (P : List Int) : Prop := ∀ W, w.grownBy W (some b) → Ints .i64 W W.heap.size v P
theorem intsBut_low {w : World} {b B : Nat} {v : Option Addr} {P : List Int} (h : Ints .i64 w B v P) (hB : B ≤ b) (hs : B ≤ w.heap.size) : IntsBut w b v P := fun _ hg =>
  (h.below (⟨hg.os, hg.tape, hg.output, hg.size, fun j hj => hg.block j (by omega) (fun e => by injection e; omega)⟩ : Below B w _)).more (Nat.le_trans hs hg.size)
theorem intsBut_row {w : World} {b b' : Nat} {P : List Int} (h : RowX w b' P) (hne : b' ≠ b) : IntsBut w b (some ⟨b', 0, none⟩) P := fun _ hg => (h.grown hg hne).ints
theorem cell_next {W W' : World} {p : Addr} {v : Value} (hc : W.cell? p = some v) (hb : Below W.heap.size W W') : W'.cell? p = some v := (hb.cell (World.block_lt_of_cell? _ _ hc)).trans hc
theorem meetTo_bad {R : List (List Int)} {N T : Int} {P : List Int} {k : Nat} {x u : Int} (hk : k < R.length) (hu : 10 * el (rwI R k) k * el P k = u) (hx : ndI R N T P k = x) (h : u < x) : decide (MtOk R N T P) = false :=
  decide_eq_false fun hm => by
    have := hm.2.2 k hk
    rw [hu, hx] at this
    omega
end Go.Proofs.Ytgdfjbdpidileaa
