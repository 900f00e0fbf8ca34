/-
  The three senders: what lies in memory; what their methods nextRound and arrive answer and leave. Conditions: the sender lies there; a message below the number of messages.
-/
import Derived.Test.YtenihedpbklmlaaRp1
import Derived.Test.YtenihedpbklmlaaRowF
import Derived.Lib.BufferOwn
namespace Go.Proofs.Ytenihedpbklmlaa
open Go.RowKit

set_option maxRecDepth 10000 in
theorem Grow.one1 (w : World) (x : Int) : Grow .i64 3 (w.alloc (.cells #[.int .i64 x] 3)) w.heap.size (some ⟨w.heap.size, 0, none⟩) 1 1 [x] :=
  ⟨rfl, .inr ⟨w.heap.size, 1, #[.int .i64 x], rfl, Nat.le_refl _, heap_alloc_last _ _, Nat.le_refl _, by unfold maxLen; omega, rfl, rfl⟩⟩
/-- A block of three cells. -/
def Box3 (W : World) (b : Nat) (T : TypeId) (x y z : Value) : Prop := W.rowIs b T 3 (fun i => if i = 0 then x else if i = 1 then y else z)
section
variable {W W' : World} {b B : Nat} {T : TypeId} {x y z v : Value}
theorem Box3.c0 (h : Box3 W b T x y z) : W.cell? ⟨b, 0, none⟩ = some x := World.rowIs.cell h (by decide)
theorem Box3.c1 (h : Box3 W b T x y z) : W.cell? ⟨b, 1, none⟩ = some y := World.rowIs.cell h (by decide)
theorem Box3.c2 (h : Box3 W b T x y z) : W.cell? ⟨b, 2, none⟩ = some z := World.rowIs.cell h (by decide)
theorem Box3.frozen (h : Box3 W b T x y z) (i : Nat) : W.frozen? ⟨b, i, none⟩ = false := World.rowIs.frozen h i
theorem Box3.lt (h : Box3 W b T x y z) : b < W.heap.size := World.rowIs.lt h
theorem Box3.of_block (h : Box3 W b T x y z) (e : W'.heap[b]? = W.heap[b]?) : Box3 W' b T x y z := World.rowIs.of_block h e
theorem Box3.next (h : Box3 W b T x y z) (hb : Below B W W') (hB : b < B) : Box3 W' b T x y z := h.of_block (hb.block b hB)
theorem Box3.other (h : Box3 W b T x y z) {c : Nat} (hne : b ≠ c) (k : Nat) (v : Value) : Box3 (W.setCell ⟨c, k, none⟩ v) b T x y z := h.of_block (Below.heap_setCell W ⟨c, k, none⟩ v b hne)
theorem Box3.set2 (h : Box3 W b T x y z) (v : Value) : Box3 (W.setCell ⟨b, 2, none⟩ v) b T x y v := (World.rowIs.set h 2 v).congr fun i hi => by
  match i, hi with
  | 0, _ => rfl
  | 1, _ => rfl
  | 2, _ => rfl
theorem box3_new (W : World) (T : TypeId) (x y z : Value) : Box3 (W.alloc (.cells #[x, y, z] T)) W.heap.size T x y z :=
  ⟨#[x, y, z], heap_alloc_last _ _, rfl, fun i hi => by
    match i, hi with
    | 0, _ => rfl
    | 1, _ => rfl
    | 2, _ => rfl⟩
end
/-- Stop and wait: the arrivals in block A, the sender in the next one; t transmissions are done. -/
structure StM (W : World) (A n : Nat) (au : Option Addr) (cu : Nat) (un : List Bool) (s : StS) (t : Nat) : Prop where
  row : RowF W A n (fun j => (s.c j : Int))
  box : Box3 W (A + 1) 66 (.slice (some ⟨A, 0, none⟩) n n) (.slice au un.length cu) (.int .i64 (s.k : Int))
  una : Bls W A au un
  few : ∀ j, s.c j ≤ t
  kn : s.k ≤ n
  n30 : n ≤ 30
section
variable {W W' : World} {A n cu t : Nat} {au : Option Addr} {un : List Bool} {s : StS}
theorem StM.next {B : Nat} (h : StM W A n au cu un s t) (hb : Below B W W') (hB : A + 2 ≤ B) : StM W' A n au cu un s t :=
  ⟨h.row.next hb (by omega), h.box.next hb (by omega), h.una.keep fun p hp => hb.cell (by omega), h.few, h.kn, h.n30⟩
theorem StM.idle (h : StM W A n au cu un s t) : StM W A n au cu un s (t + 1) := ⟨h.row, h.box, h.una, fun j => by have := h.few j; omega, h.kn, h.n30⟩
theorem StM.lt (h : StM W A n au cu un s t) : A + 2 ≤ W.heap.size := h.box.lt
end
set_option maxRecDepth 10000 in
set_option maxHeartbeats 1000000 in
theorem stNext_any (W : World) (A n : Nat) (au : Option Addr) (cu : Nat) (un : List Bool) (s : StS) (t : Nat) (h : StM W A n au cu un s t) :
    Calls Try.prog 93 #[.pointer (some ⟨A + 1, 0, none⟩)] W (ListPostC (stR n s) W) := by
  have c0 := h.box.c0
  have c2 := h.box.c2
  by_cases e : s.k = n
  · have z1 : ((s.k : Int) == (n : Int)) = true := by simp [e]
    have HR := Lib.hid (show stR n s = [] from if_pos e)
    rw [HR.out]
    clear h e
    generalize s.k = k at *
    go_enter Try.func93, Try.ntmps93
    go_wp2
    go_quiet (fail)
    go_wp2
    go_ret
    exact listPostC_nil (below_drewN (Below.refl _ _) _)
  · have z1 : ((s.k : Int) == (n : Int)) = false := by simp; omega
    have HR := Lib.hid (show stR n s = [(s.k : Int)] from if_neg e)
    rw [HR.out]
    clear h e
    generalize s.k = k at *
    go_enter Try.func93, Try.ntmps93
    go_wp2
    go_quiet (fail)
    go_wp2
    go_ret
    exact listPostC_grow (Grow.one1 _ _) ((below_drewN (Below.refl _ _) _).alloc (Nat.le_refl _) _)
set_option maxRecDepth 10000 in
set_option maxHeartbeats 1000000 in
theorem stArrive_any (W : World) (A n : Nat) (au : Option Addr) (cu : Nat) (un : List Bool) (s : StS) (t x : Nat) (h : StM W A n au cu un s t) (hx : x < n) (hk : s.k < n) (ht : t ≤ 1000) :
    Calls Try.prog 92 #[.pointer (some ⟨A + 1, 0, none⟩), .int .i64 (x : Int), .int .i64 (t : Int)] W fun e w' => e = .returned (.tuple #[]) ∧ StM w' A n au cu un (stA (bt un) s x t) (t + 1) ∧ KeptOut A (A + 2) W w' := by
  have H := Lib.hid h
  have c0 := h.box.c0
  have c1 := h.box.c1
  have f2 := h.box.frozen 2
  have d0 := h.row.cell hx
  have g0 := h.row.frozen x
  have hf := h.few x
  have h30 := h.n30
  obtain ⟨q, hq⟩ : ∃ q, q = s.c x := ⟨_, rfl⟩
  rw [← hq] at d0 hf
  obtain ⟨W1, hW1⟩ : ∃ W1, W1 = W.setCell ⟨A, x, none⟩ (.int .i64 ((q : Int) + 1)) := ⟨_, rfl⟩
  have HR1 : Hid (RowF W1 A n (fun j => (((stA (bt un) s x t).c j : Nat) : Int))) := Lib.hid (by
    rw [hW1]
    refine h.row.put fun i hi => ?_
    unfold stA
    simp only
    by_cases e : i = x
    · subst e; simp [hq]
    · simp [e])
  have HB1 : Hid (Box3 W1 (A + 1) 66 (.slice (some ⟨A, 0, none⟩) n n) (.slice au un.length cu) (.int .i64 (s.k : Int))) := Lib.hid (by rw [hW1]; exact h.box.other (by omega) _ _)
  have HK1 : Hid (KeptOut A (A + 2) W W1) := Lib.hid (by rw [hW1]; exact keptOut_set W x _ (Nat.le_refl _) (by omega))
  have HU1 : Hid (Bls W1 A au un) := Lib.hid (h.una.keep fun p hp => by rw [hW1]; exact World.cell?_of_block (Below.heap_setCell W ⟨A, x, none⟩ _ _ (by show p.block ≠ A; omega)))
  have hb1 : W1.cell? ⟨A + 1, 1, none⟩ = some (.slice au un.length cu) := HB1.out.c1
  have hb2 : W1.cell? ⟨A + 1, 2, none⟩ = some (.int .i64 (s.k : Int)) := HB1.out.c2
  have hbf : W1.frozen? ⟨A + 1, 2, none⟩ = false := HB1.out.frozen 2
  have r1 := wrapW (n := (q : Int) + 1) (by omega)
  have r1' := wrapW' (n := (q : Int) + 1) (by omega)
  have r2 := wrapW (n := (s.k : Int) + 1) (by omega)
  have r2' := wrapW' (n := (s.k : Int) + 1) (by omega)
  have hxn : (x : Int) < (n : Int) := by omega
  have HW1 := Lib.hid hW1
  have HF : Hid (∀ j, (stA (bt un) s x t).c j ≤ t + 1) := Lib.hid (fun j => by
    have := h.few j
    show (if j = x then s.c j + 1 else s.c j) ≤ t + 1
    split <;> omega)
  have HN := Lib.hid (And.intro (show s.k + 1 ≤ n from hk) h30)
  clear h hq hf h30 hx ht hk f2 hW1
  cases hu : bt un t
  · have HM := Lib.hid (fun W h => isMarked_is au cu A un t false W h hu)
    have HE : Hid ((stA (bt un) s x t).k = s.k + 1) := Lib.hid (by unfold stA; simp [hu])
    clear hu
    go_enter Try.func92, Try.ntmps92
    go_wp2_with (rw [← HW1.out]; go_at_call 63; ((with_reducible refine (HM.out _ HU1.out).mono ?_); rintro e w1 ⟨rfl, rfl⟩))
    go_end0
    exact ⟨rfl, ⟨HR1.out.other (by omega) _ _, HE.out ▸ HB1.out.set2 _, HU1.out.keep fun p hp => World.cell?_of_block (Below.heap_setCell W1 ⟨A + 1, 2, none⟩ _ _ (by show p.block ≠ A + 1; omega)), HF.out, by rw [HE.out]; exact HN.out.1, HN.out.2⟩, keptOut_trans HK1.out (keptOut_set W1 2 _ (by omega) (by omega))⟩
  · have HM := Lib.hid (fun W h => isMarked_is au cu A un t true W h hu)
    have HE : Hid ((stA (bt un) s x t).k = s.k) := Lib.hid (by unfold stA; simp [hu])
    clear hu
    go_enter Try.func92, Try.ntmps92
    go_wp2_with (rw [← HW1.out]; go_at_call 63; ((with_reducible refine (HM.out _ HU1.out).mono ?_); rintro e w1 ⟨rfl, rfl⟩))
    go_end0
    exact ⟨rfl, ⟨HR1.out, HE.out ▸ HB1.out, HU1.out, HF.out, by rw [HE.out]; have := HN.out.1; omega, HN.out.2⟩, HK1.out⟩
end Go.Proofs.Ytenihedpbklmlaa
