/-
  What the copies, comparisons and marks of links by value answer. Conditions: the rows can be read; at most 2^20 numbers in all.
-/
import Derived.Test.YtgdfjbdpidileaaPw9
import Derived.Test.YtgdfjbdpidileaaMarks
import Derived.Deep.QuietTactic
import Derived.Lib.SmallJoins
namespace Go.Proofs.Ytgdfjbdpidileaa
open Go.RowKit

theorem CpR.grown {W W' : World} {b0 b k : Nat} {R : List (List Int)} {blk : Nat → Nat} (h : CpR W b0 R k blk) (hg : W.grownBy W' (some b)) (hb : b < b0) : CpR W' b0 R k blk :=
  ⟨h.row.of_block (hg.block _ h.row.lt (fun e => by injection e; omega)), fun i hi => ⟨(h.at_ i hi).1, (h.at_ i hi).2.of_block (hg.block _ (h.at_ i hi).2.lt (fun e => by injection e; have := (h.at_ i hi).1; omega))⟩, h.inc⟩
theorem row3 {W : World} {b : Nat} {t : TypeId} {f : Nat → Value} (h : W.rowIs b t 3 f) : W.heap[b]? = some (.cells #[f 0, f 1, f 2] t (0, 0)) := by
  obtain ⟨c, h1, h2, h3⟩ := h
  obtain ⟨x, y, z, rfl⟩ := Go.Joins.array3 h2
  have e0 := h3 0 (by omega)
  have e1 := h3 1 (by omega)
  have e2 := h3 2 (by omega)
  simp at e0 e1 e2
  rw [h1, ← e0, ← e1, ← e2]
/-- A variable of links: three cells of the call's own. -/
def LkVar (W : World) (b : Nat) (x y z : Value) : Prop := W.rowIs b 25 3 (fun j => if j = 0 then x else if j = 1 then y else z)
section
variable {W W' : World} {b : Nat} {x y z : Value}
theorem LkVar.g (h : LkVar W b x y z) : W.cell? ⟨b, 0, none⟩ = some x := World.rowIs.cell h (i := 0) (by omega)
theorem LkVar.n (h : LkVar W b x y z) : W.cell? ⟨b, 1, none⟩ = some y := World.rowIs.cell h (i := 1) (by omega)
theorem LkVar.t (h : LkVar W b x y z) : W.cell? ⟨b, 2, none⟩ = some z := World.rowIs.cell h (i := 2) (by omega)
theorem LkVar.f (h : LkVar W b x y z) (i : Nat) : W.frozen? ⟨b, i, none⟩ = false := World.rowIs.frozen h i
theorem LkVar.lt (h : LkVar W b x y z) : b < W.heap.size := World.rowIs.lt h
theorem LkVar.next (h : LkVar W b x y z) (hb : Below W.heap.size W W') : LkVar W' b x y z := World.rowIs.of_block h (hb.block b h.lt)
theorem LkVar.drewN (h : LkVar W b x y z) (n : Nat) : LkVar (W.drewN n) b x y z := h
theorem LkVar.grown {c : Nat} (h : LkVar W b x y z) (hg : W.grownBy W' (some c)) (hne : b ≠ c) : LkVar W' b x y z := World.rowIs.of_block h (hg.block b h.lt (fun e => hne (by injection e)))
theorem LkVar.setG (h : LkVar W b x y z) (v : Value) : LkVar (W.setCell ⟨b, 0, none⟩ v) b v y z := (World.rowIs.set h 0 v).congr fun j _ => by by_cases e : j = 0 <;> simp [e]
theorem LkVar.setN (h : LkVar W b x y z) (v : Value) : LkVar (W.setCell ⟨b, 1, none⟩ v) b x v z := (World.rowIs.set h 1 v).congr fun j _ => by
  by_cases e : j = 1
  · subst e; simp
  · by_cases e2 : j = 0 <;> simp [e, e2]
theorem LkVar.setT (h : LkVar W b x y z) (v : Value) : LkVar (W.setCell ⟨b, 2, none⟩ v) b x y v := (World.rowIs.set h 2 v).congr fun j hj => by
  by_cases e : j = 2
  · subst e; simp
  · by_cases e2 : j = 0
    · simp [e2]
    · have : j = 1 := by omega
      subst this; simp
theorem LkVar.heap (h : LkVar W b x y z) : W.heap[b]? = some (.cells #[x, y, z] 25 (0, 0)) := row3 h
end
theorem lkVar_new (w : World) (x y z : Value) : LkVar (w.alloc (.cells #[x, y, z] 25)) w.heap.size x y z :=
  ⟨_, heap_alloc_last _ _, rfl, fun i hi => by
    match i, hi with
    | 0, _ | 1, _ | 2, _ => rfl⟩
theorem infoLk : (Try.prog.info? 25).map (·.size) = some 3 := by kernel_rfl
theorem KeptOut.mark {B C b : Nat} {w W W' : World} (h : KeptOut B C w W) (hg : W.grownBy W' (some b)) (h1 : B ≤ b) (h2 : b < C) : KeptOut B C w W' :=
  ⟨hg.os.trans h.os, hg.tape.trans h.tape, hg.output.trans h.output, Nat.le_trans h.size hg.size, fun j hj ho => (hg.block j (Nat.lt_of_lt_of_le hj h.size) (fun e => by injection e; omega)).trans (h.block j hj ho)⟩
theorem KeptOut.up {B C : Nat} {w W W' : World} (h : KeptOut B C w W) (hb : Below W.heap.size W W') : KeptOut B C w W' :=
  ⟨hb.os.trans h.os, hb.tape.trans h.tape, hb.output.trans h.output, Nat.le_trans h.size hb.size, fun j hj ho => (hb.block j (Nat.lt_of_lt_of_le hj h.size)).trans (h.block j hj ho)⟩
theorem KeptOut.after {B C : Nat} {w W W' : World} (h : KeptOut B C W W') (hb : KeptOut B C w W) : KeptOut B C w W' :=
  ⟨h.os.trans hb.os, h.tape.trans hb.tape, h.output.trans hb.output, Nat.le_trans hb.size h.size, fun j hj ho => (h.block j (Nat.lt_of_lt_of_le hj hb.size) ho).trans (hb.block j hj ho)⟩
end Go.Proofs.Ytgdfjbdpidileaa
