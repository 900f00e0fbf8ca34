/-
  What the draws of links with powers answer. No condition.
-/
import Derived.Test.YtlgcacoggikfcaaPwDraw5
namespace Go.Proofs.Ytlgcacoggikfcaa
open Go.RowKit

/-- Drawn links and powers, new values. -/
def DrawLkPwP (w : World) (e : Ending) (w' : World) : Prop :=
  ∃ a c N T R v cv P, e = .returned (.tuple #[.agg #[.slice a R.length c, .int .i64 N, .int .i64 T], .slice v P.length cv]) ∧ RowsL w' w'.heap.size a R ∧ (R.length ≤ c ∧ c ≤ maxLen) ∧ Ints .i64 w' w'.heap.size v P ∧ Below w.heap.size w w'
theorem grow_typedI {W W' : World} {b n cap base : Nat} {c : Array Value} {t' : TypeId} {fr : Nat × Nat} {a : Option Addr} {xs : List Int} (h : Grow .i64 3 W base a n cap xs) (hg : W.grownBy W' (some b)) (hb : W.heap[b]? = some (.cells c t' fr)) (ht : t' ≠ 3) : Ints .i64 W' W'.heap.size a xs := (h.typed hg hb ht).ints
theorem results_lk {fn : Func} {p u : Tmp} (h : fn.results = #[.cell p 25, .tmp u]) (tmps : Array Value) (w : World) (g : Nat) (x y z : Value)
    (hp : tmps.getD p undef = .pointer (some ⟨g, 0, none⟩)) (hg : w.heap[g]? = some (.cells #[x, y, z] 25 (0, 0))) : (results fn tmps).run Try.prog w = .ok (.tuple #[.agg #[x, y, z], tmps.getD u undef]) w := by
  rw [results_cell_tmp h, hp]
  simp only [asAddr, Sem.run_pure, Result.andThen_ok]
  rw [run_loadVar_row w g 25 25 #[x, y, z] (0, 0) _ hg Try.underlying25 rfl (by rw [infoLk]; rfl)]
  rfl
set_option maxHeartbeats 2000000 in
theorem drawPowerStep_any (a : Option Addr) (c : Nat) (ds : List Int) (w : World) (hx : Ints .u8 w w.heap.size a ds) (hw : ∀ n ∈ ds, isByte n) (hc : ds.length ≤ c) (hcm : c ≤ maxLen) :
    Calls Try.prog 20 #[.slice a ds.length c] w (DrawLkPwP w) := by
  have hl : ds.length ≤ maxLen := Nat.le_trans hc hcm
  have X0 := lkVar_new w (.slice none 0 0) (.int .i64 0) (.int .i64 0)
  have B0 := alloc_belowX w (.cells #[.slice none 0 0, .int .i64 0, .int .i64 0] 25)
  have HO := Lib.hid (open_any a c ds _ (hx.next B0) hw hc hl hcm)
  have e1 : (w.alloc (.cells #[.slice none 0 0, .int .i64 0, .int .i64 0] 25)).heap.size = w.heap.size + 1 := by simp
  clear hx hw hc hcm hl
  go_enter Try.func20, Try.ntmps20
  go_wp2_with fail
  generalize w.alloc (.cells #[.slice none 0 0, .int .i64 0, .int .i64 0] 25) = W1 at *
  refine HO.out.mono ?_
  rintro e w2 ⟨rfl, r2, b2⟩
  have X2 := Lib.hid (X0.next b2)
  have B2 := Lib.hid (Below.next B0 (Nat.le_refl _) b2)
  rw [e1] at r2
  have R2 := Lib.hid r2
  clear X0 B0 HO r2 b2
  rw [e1]
  go_wp2_with fail
  refine (links_any (w.heap.size + 1) 0 12 w2 R2.out (by omega) (by omega) (by omega)).mono ?_
  rintro e w3 ⟨ga, gc, N, T, R, p', rfl, hR4, hd, hr3, hp3, g3⟩
  have X3 := Lib.hid (X2.out.grown g3 (by omega))
  have B3 := Lib.hid (B2.out.grown g3 B2.out.size (fun k hk => by injection hk; omega))
  have s3 : w.heap.size + 1 < w3.heap.size := hr3.lt
  have hal := alloc_belowX w3 (.cells #[.slice ga R.length gc, .int .i64 N, .int .i64 T] 25)
  have D4 := Lib.hid (hd.next hal)
  have R4 := Lib.hid (hr3.alloc (.cells #[.slice ga R.length gc, .int .i64 N, .int .i64 T] 25))
  have X4 := Lib.hid (X3.out.next hal)
  have Y4 := Lib.hid (lkVar_new w3 (.slice ga R.length gc) (.int .i64 N) (.int .i64 T))
  have B4 := Lib.hid (Below.next B3.out (Nat.le_refl _) hal)
  obtain ⟨b5, hb5⟩ : ∃ b5, b5 = w3.heap.size := ⟨_, rfl⟩
  clear hd hr3 g3 X2 X3 B2 B3 R2 e1 hal
  go_wp2_with fail
  generalize w3.alloc (.cells #[.slice ga R.length gc, .int .i64 N, .int .i64 T] 25) = w4 at *
  rw [← hb5] at Y4 s3 ⊢
  clear hb5
  have vg := Y4.out.g
  have vn := Y4.out.n
  have vt := Y4.out.t
  have rg := X4.out.g
  have rn := X4.out.n
  have rt := X4.out.t
  have rf := X4.out.f
  have RD := Lib.hid (show Rd (w4.drewN 1) (w.heap.size + 1) p' from R4.out)
  go_region_law (first
    | (go_simp; go_at_call 41; refine (powers_any (w.heap.size + 1) p' ga R.length gc N T _ RD.out (by omega) (by omega)).mono ?_; rintro e w9 ⟨pv, pc, P, p2, rfl, hgr, hrd, hp2, hgb⟩; have X9 := Lib.hid ((X4.out.drewN 1).grown hgb (by omega)); have Y9 := Lib.hid ((Y4.out.drewN 1).grown hgb (by omega)); have D9 := Lib.hid ((D4.out.next (below_drewN (Below.refl _ _) 1)).read hgb RD.out); have B9 := Lib.hid ((below_drewN B4.out 1).grown hgb B4.out.size (fun k hk => by injection hk; omega)); have L9 := Lib.hid hgr; have k1 := X9.out.g; have k2 := X9.out.n; have k3 := X9.out.t; have k4 := X9.out.f; have k5 := Y9.out.g; have k6 := Y9.out.n; have k7 := Y9.out.t; clear hgr hrd hgb)
    | fail)
  all_goals
    go_wp2
    have hg := Lib.grownBy_setB (Lib.grownBy_setB (Lib.grownBy_setCell w9 w.heap.size 0 (.slice ga R.length gc)) 1 (.int .i64 N)) 2 (.int .i64 T)
    refine bodyPost_ret (results_lk rfl _ _ w.heap.size _ _ _ rfl (((X9.out.setG _).setN _).setT _).heap) rfl ?_
    have hD := D9.out.typed hg X9.out.heap (by decide) (by decide)
    exact ⟨ga, gc, N, T, R, pv, pc, P, rfl, hD.rows, hD.room, grow_typedI L9.out hg X9.out.heap (by decide), B9.out.grown hg B9.out.size (fun k hk => by injection hk; omega)⟩
end Go.Proofs.Ytlgcacoggikfcaa
