/-
  What the draws of links alone answer. No condition.
-/
import Derived.Test.YtlgcacoggikfcaaPwDraw3
namespace Go.Proofs.Ytlgcacoggikfcaa
open Go.RowKit

/-- Drawn links, a new value. -/
def DrawLkP (w : World) (e : Ending) (w' : World) : Prop :=
  ∃ a c N T R, e = .returned (.agg #[.slice a R.length c, .int .i64 N, .int .i64 T]) ∧ DRows w' a c R ∧ Below w.heap.size w w'
set_option maxHeartbeats 1000000 in
theorem drawLeastPowers_any (a : Option Addr) (c : Nat) (ds : List Int) (w : World) (hx : Ints .u8 w w.heap.size a ds) (hw : ∀ n ∈ ds, isByte n) (hc : ds.length ≤ c) (hcm : c ≤ maxLen) :
    Calls Try.prog 23 #[.slice a ds.length c] w (DrawLkP w) := by
  have hl : ds.length ≤ maxLen := Nat.le_trans hc hcm
  have X0 := lkVar_new w (.slice none 0 0) (.int .i64 0) (.int .i64 0)
  have B0 := alloc_belowX w (.cells #[.slice none 0 0, .int .i64 0, .int .i64 0] 25)
  have HO := Lib.hid (open_any a c ds _ (hx.next B0) hw hc hl hcm)
  have e1 : (w.alloc (.cells #[.slice none 0 0, .int .i64 0, .int .i64 0] 25)).heap.size = w.heap.size + 1 := by simp
  clear hx hw hc hcm hl
  go_enter Try.func23, Try.ntmps23
  go_wp2_with fail
  generalize w.alloc (.cells #[.slice none 0 0, .int .i64 0, .int .i64 0] 25) = W1 at *
  refine HO.out.mono ?_
  rintro e w2 ⟨rfl, r2, b2⟩
  have X2 := Lib.hid (X0.next b2)
  have B2 := Lib.hid (Below.next B0 (Nat.le_refl _) b2)
  rw [e1] at r2
  have R2 := Lib.hid r2
  clear X0 B0 HO r2 b2
  rw [e1]
  go_wp2_with fail
  refine (links_any (w.heap.size + 1) 0 9 w2 R2.out (by omega) (by omega) (by omega)).mono ?_
  rintro e w3 ⟨ga, gc, N, T, R, p', rfl, _, hd, hr3, _, g3⟩
  have X3 := Lib.hid (X2.out.grown g3 (by omega))
  have B3 := Lib.hid (B2.out.grown g3 B2.out.size (fun k hk => by injection hk; omega))
  have D3 := Lib.hid hd
  have s3 : w.heap.size < w3.heap.size := by have := hr3.lt; omega
  clear hd hr3 g3 X2 B2 R2 e1
  have rg := X3.out.g
  have rn := X3.out.n
  have rt := X3.out.t
  have rf := X3.out.f
  go_wp2
  have hg := Lib.grownBy_setB (Lib.grownBy_setB (Lib.grownBy_setCell w3 w.heap.size 0 (.slice ga R.length gc)) 1 (.int .i64 N)) 2 (.int .i64 T)
  refine bodyPost_ret (results_cell_row (P := Try.prog) rfl _ _ w.heap.size 25 #[.slice ga R.length gc, .int .i64 N, .int .i64 T] (0, 0) _ rfl (((X3.out.setG _).setN _).setT _).heap Try.underlying25 rfl (by rw [infoLk]; rfl)) rfl ?_
  exact ⟨ga, gc, N, T, R, rfl, D3.out.typed hg X3.out.heap (by decide) (by decide), B3.out.grown hg B3.out.size (fun k hk => by injection hk; omega)⟩
end Go.Proofs.Ytlgcacoggikfcaa
