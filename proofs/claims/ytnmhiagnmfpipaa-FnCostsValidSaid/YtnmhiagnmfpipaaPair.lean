/-
  What packing two lists answers. No condition.
-/
import Derived.Test.YtnmhiagnmfpipaaPackBits
import Derived.Test.YtnmhiagnmfpipaaPlus
import Derived.Deep.RegionLaw
namespace Go.Proofs.Ytnmhiagnmfpipaa
open Go.RowKit

def pairOk (xs ys : List Int) : Bool := bitsOk xs && bitsOk ys && decide (xs.length = ys.length)
theorem after1 {w w1 : World} {A : Obj} (h : Below (w.alloc A).heap.size (w.alloc A) w1) :
    w1.heap[w.heap.size]? = some A ∧ w.heap.size < w1.heap.size ∧ Below w.heap.size w w1 := by
  have hs := h.size
  simp only [World.size_alloc] at hs
  refine ⟨(h.block _ (by simp)).trans (heap_alloc_last w A), by omega, ?_⟩
  exact ((Below.refl _ _).alloc (Nat.le_refl _) A).trans (h.mono (by simp))
theorem after2 {w w1 : World} {A C : Obj} (h : Below ((w.alloc A).alloc C).heap.size ((w.alloc A).alloc C) w1) :
    w1.heap[w.heap.size]? = some A ∧ w1.heap[w.heap.size + 1]? = some C ∧ w.heap.size + 1 < w1.heap.size ∧ Below w.heap.size w w1 := by
  have hs := h.size
  simp only [World.size_alloc] at hs
  refine ⟨(h.block _ (by simp; omega)).trans (heap_prev2 w A C), (h.block _ (by simp)).trans (heap_last2 w A C), by omega, ?_⟩
  exact (((Below.refl _ _).alloc (Nat.le_refl _) A).alloc (by simp) C).trans (h.mono (by simp; omega))
set_option maxRecDepth 10000 in
theorem loadAt_pack {w : World} {g : Nat} {cells : Array Value} (hg : w.heap[g]? = some (.cells cells 75 (0, 0))) (hs : cells.size = 17) :
    (Instr.loadAt 75 (.pointer (some ⟨g, 0, none⟩))).run Try.prog w = .ok (.agg cells) w := by
  simp only [Instr.loadAt, Instr.sureAddr, Sem.run_bind, Sem.run_pure, Result.andThen_ok, run_loadVar_row w g 75 75 cells (0, 0) _ hg Try.underlying75 rfl (by rw [infoPack, hs])]
set_option maxRecDepth 10000 in
theorem storeAt_pack {w : World} {g : Nat} {cells old : Array Value} (hg : w.heap[g]? = some (.cells old 75 (0, 0))) (hs : cells.size = 17) (hold : old.size = 17) (h1 : cells.all (·.oneCell') = true) :
    (Instr.storeAt 75 (.pointer (some ⟨g, 0, none⟩)) (.agg cells)).run Try.prog w = .ok () (w.setRow g cells) := by
  simp only [Instr.storeAt, Instr.sureAddr, Sem.run_bind, Sem.run_pure, Result.andThen_ok, run_storeVar_row w g 75 75 old cells hg (by rw [infoPack, hs]) (by rw [hold, hs]) h1]
set_option maxRecDepth 10000 in
theorem step_load_pack {ops : Array Oper} {o : Oper} {a : Act} {w : World} {K : Act → World → Prop} {Q : Exit → Act → World → Prop} {E : Prop} (x : Operand) (g : Nat) (cells : Array Value)
    (hg : w.heap[g]? = some (.cells cells 75 (0, 0))) (hs : cells.size = 17)
    (hgd : o.guard = none) (ho : o.op = .load 75 x) (hx : a.eval x = .pointer (some ⟨g, 0, none⟩))
    (h : K (a.put o.dst (.agg cells)) w) : if Region.wanted o (yielded ops a.tmps) = true then Oper.wp Try.prog o a w K Q else E := by
  rw [if_pos (by simp [Region.wanted, hgd])]
  exact wp_load_row 75 x ho g hx 75 cells (0, 0) _ hg Try.underlying75 rfl (by rw [infoPack, hs]) h
set_option maxRecDepth 10000 in
theorem step_store_pack {ops : Array Oper} {o : Oper} {a : Act} {w : World} {K : Act → World → Prop} {Q : Exit → Act → World → Prop} {E : Prop} (x y : Operand) (g : Nat) (cells old : Array Value)
    (hg : w.heap[g]? = some (.cells old 75 (0, 0))) (hs : cells.size = 17) (hold : old.size = 17) (h1 : cells.all (·.oneCell') = true)
    (hgd : o.guard = none) (ho : o.op = .store 75 x y) (hx : a.eval x = .pointer (some ⟨g, 0, none⟩)) (hy : a.eval y = .agg cells)
    (h : K (a.put o.dst undef) (w.setRow g cells)) : if Region.wanted o (yielded ops a.tmps) = true then Oper.wp Try.prog o a w K Q else E := by
  rw [if_pos (by simp [Region.wanted, hgd])]
  exact wp_store_row 75 x y ho g cells hx hy 75 old hg (by rw [infoPack, hs]) (by rw [hold, hs]) h1 h
def PairPost (xs ys : List Int) (w : World) (e : Ending) (w' : World) : Prop :=
  ∃ cs cs' P Q, e = .returned (.tuple #[.agg cs, .agg cs', .bool (pairOk xs ys)]) ∧
    (pairOk xs ys = true → IsPack cs P xs.length ∧ Packed P (bitsF xs xs.length) ∧ IsPack cs' Q xs.length ∧ Packed Q (bitsF ys xs.length)) ∧
    cs.size = 17 ∧ cs.all (·.oneCell') = true ∧ cs'.size = 17 ∧ cs'.all (·.oneCell') = true ∧ Below w.heap.size w w'
theorem pairPost_ok {xs ys : List Int} {w w' : World} {cs cs' : Array Value} {P Q : Nat → Nat} (h1 : bitsOk xs = true) (h2 : bitsOk ys = true) (hl : xs.length = ys.length)
    (hp : IsPack cs P xs.length ∧ Packed P (bitsF xs xs.length)) (hq : IsPack cs' Q xs.length ∧ Packed Q (bitsF ys xs.length))
    (s1 : cs.size = 17) (o1 : cs.all (·.oneCell') = true) (s2 : cs'.size = 17) (o2 : cs'.all (·.oneCell') = true) (hb : Below w.heap.size w w') :
    PairPost xs ys w (.returned (.tuple #[.agg cs, .agg cs', .bool true])) w' :=
  ⟨cs, cs', P, Q, by simp [pairOk, h1, h2, hl], fun _ => ⟨hp.1, hp.2, hq.1, hq.2⟩, s1, o1, s2, o2, hb⟩
theorem pairPost_no {xs ys : List Int} {w w' : World} {cs cs' : Array Value} (h : pairOk xs ys = false)
    (s1 : cs.size = 17) (o1 : cs.all (·.oneCell') = true) (s2 : cs'.size = 17) (o2 : cs'.all (·.oneCell') = true) (hb : Below w.heap.size w w') :
    PairPost xs ys w (.returned (.tuple #[.agg cs, .agg cs', .bool false])) w' :=
  ⟨cs, cs', fun _ => 0, fun _ => 0, by rw [h], (fun h' => by rw [h] at h'; cases h'), s1, o1, s2, o2, hb⟩
set_option maxRecDepth 10000 in
theorem results_pair {fn : Func} {p q u : Tmp} (h : fn.results = #[.cell p 75, .cell q 75, .tmp u]) (tmps : Array Value) (w : World) (g g' : Nat) (cs cs' : Array Value)
    (hp : tmps.getD p undef = .pointer (some ⟨g, 0, none⟩)) (hq : tmps.getD q undef = .pointer (some ⟨g', 0, none⟩)) (hg : w.heap[g]? = some (.cells cs 75 (0, 0))) (hg' : w.heap[g']? = some (.cells cs' 75 (0, 0)))
    (hs : cs.size = 17) (hs' : cs'.size = 17) :
    (results fn tmps).run Try.prog w = .ok (.tuple #[.agg cs, .agg cs', tmps.getD u undef]) w := by
  have r1 := run_loadVar_row (P := Try.prog) w g 75 75 cs (0, 0) _ hg Try.underlying75 rfl (by rw [infoPack, hs])
  have r2 := run_loadVar_row (P := Try.prog) w g' 75 75 cs' (0, 0) _ hg' Try.underlying75 rfl (by rw [infoPack, hs'])
  have hp' : tmps[p]?.getD undef = .pointer (some ⟨g, 0, none⟩) := by simpa using hp
  have hq' : tmps[q]?.getD undef = .pointer (some ⟨g', 0, none⟩) := by simpa using hq
  simp [results, h, hp', hq', asAddr, r1, r2, Sem.run_bind]
set_option maxRecDepth 10000 in
set_option maxHeartbeats 1000000 in
theorem packPair_any (a a' : Option Addr) (c c' B B' : Nat) (xs ys : List Int) (w : World) (hx : Ints .i64 w B a xs) (hy : Ints .i64 w B' a' ys) (hB : B ≤ w.heap.size) (hB' : B' ≤ w.heap.size) :
    Calls Try.prog 63 #[.slice a xs.length c, .slice a' ys.length c'] w (PairPost xs ys w) := by
  have HX := Lib.hid hx
  have HY := Lib.hid hy
  clear hx hy
  go_enter Try.func63, Try.ntmps63
  go_wp2_with fail
  refine (packBits_any a c w.heap.size xs _ ((HX.out.more hB).below (((Below.refl _ _).alloc (Nat.le_refl _) _).alloc (by simp) _)) (by simp; omega)).mono ?_
  rintro e w1 ⟨cs, P, rfl, hpk, hs, h1, hbel⟩
  have HA := Lib.hid (after2 hbel)
  have HP := Lib.hid hpk
  have HS := Lib.hid hs
  have H1 := Lib.hid h1
  clear hpk hs h1 hbel
  go_wp2_with (refine store_pack (.tmp 7) (.tmp 14) w1.heap.size cs _ (heap_alloc_last _ _) HS.out rfl H1.out rfl rfl rfl rfl ?_)
  rw [World.setRow_alloc_new]
  refine (packBits_any a' c' w.heap.size ys _ ((HY.out.more hB').below (HA.out.2.2.2.alloc (by have := HA.out.2.2.1; omega) _)) (by have := HA.out.2.2.1; simp; omega)).mono ?_
  rintro e w2 ⟨cs', Q, rfl, hpk, hs, h1, hbel⟩
  have HA2 := Lib.hid (after1 hbel)
  have HQ := Lib.hid hpk
  have HS' := Lib.hid hs
  have H1' := Lib.hid h1
  clear hpk hs h1 hbel
  have hlt1 : w.heap.size + 1 < w1.heap.size := HA.out.2.2.1
  have hlt2 : w1.heap.size < w2.heap.size := HA2.out.2.1
  have g1 : Hid (w2.heap[w.heap.size]? = some (.cells zeroPack 75 (0, 0))) := (HA2.out.2.2.block _ (by omega)).trans HA.out.1
  have g2 : Hid (w2.heap[w.heap.size + 1]? = some (.cells zeroPack 75 (0, 0))) := (HA2.out.2.2.block _ (by omega)).trans HA.out.2.1
  have g3 : Hid (w2.heap[w1.heap.size]? = some (.cells cs 75 (0, 0))) := HA2.out.1
  have hbw : Hid (Below w.heap.size w w2) := HA.out.2.2.2.trans (HA2.out.2.2.mono (by omega))
  clear HA HA2 HX HY
  have k3 : Hid ((w2.alloc (.cells cs' 75)).heap[w1.heap.size]? = some (.cells cs 75 (0, 0))) := (Below.heap_alloc _ _ _ hlt2).trans g3.out
  have k1 : Hid ((w2.alloc (.cells cs' 75)).heap[w.heap.size]? = some (.cells zeroPack 75 (0, 0))) := (Below.heap_alloc _ _ _ (by omega)).trans g1.out
  have k2 : Hid ((w2.alloc (.cells cs' 75)).heap[w.heap.size + 1]? = some (.cells zeroPack 75 (0, 0))) := (Below.heap_alloc _ _ _ (by omega)).trans g2.out
  have k2z : Hid (((w2.alloc (.cells cs' 75)).setRow w.heap.size zeroPack).heap[w.heap.size + 1]? = some (.cells zeroPack 75 (0, 0))) := (setRow_other _ _ _ _ (by omega)).trans k2.out
  have k4 : Hid ((w2.alloc (.cells cs' 75)).heap[w2.heap.size]? = some (.cells cs' 75 (0, 0))) := heap_alloc_last _ _
  have kb : Hid (Below w.heap.size w (w2.alloc (.cells cs' 75))) := hbw.out.alloc (by omega) _
  cases hb1 : bitsOk xs
  · have HNo := Lib.hid (show pairOk xs ys = false by simp [pairOk, hb1])
    clear HP HQ
    go_wp2_with (first | (refine store_pack (.tmp 9) (.tmp 19) w2.heap.size cs' _ (heap_alloc_last _ _) HS'.out rfl H1'.out rfl rfl rfl rfl ?_; rw [World.setRow_alloc_new]) | (refine store_pack (.tmp 4) (.tmp 34) w.heap.size zeroPack zeroPack k1.out rfl rfl zeroPack_one rfl rfl rfl rfl ?_) | (refine store_pack (.tmp 5) (.tmp 35) (w.heap.size + 1) zeroPack zeroPack k2z.out rfl rfl zeroPack_one rfl rfl rfl rfl ?_))
    refine bodyPost_ret (results_pair rfl _ _ w.heap.size (w.heap.size + 1) zeroPack zeroPack rfl rfl ((setRow_other _ _ _ _ (by omega)).trans (setRow_heap _ _ _ _ _ _ k1.out)) (setRow_heap _ _ _ _ _ _ k2z.out) rfl rfl) rfl ?_
    exact pairPost_no HNo.out rfl zeroPack_one rfl zeroPack_one (below_setRow (below_setRow kb.out (Nat.le_refl _) _) (by omega) _)
  · cases hb2 : bitsOk ys
    · have HNo := Lib.hid (show pairOk xs ys = false by simp [pairOk, hb1, hb2])
      clear HP HQ
      go_wp2_with (first | (refine store_pack (.tmp 9) (.tmp 19) w2.heap.size cs' _ (heap_alloc_last _ _) HS'.out rfl H1'.out rfl rfl rfl rfl ?_; rw [World.setRow_alloc_new]) | (refine store_pack (.tmp 4) (.tmp 34) w.heap.size zeroPack zeroPack k1.out rfl rfl zeroPack_one rfl rfl rfl rfl ?_) | (refine store_pack (.tmp 5) (.tmp 35) (w.heap.size + 1) zeroPack zeroPack k2z.out rfl rfl zeroPack_one rfl rfl rfl rfl ?_))
      refine bodyPost_ret (results_pair rfl _ _ w.heap.size (w.heap.size + 1) zeroPack zeroPack rfl rfl ((setRow_other _ _ _ _ (by omega)).trans (setRow_heap _ _ _ _ _ _ k1.out)) (setRow_heap _ _ _ _ _ _ k2z.out) rfl rfl) rfl ?_
      exact pairPost_no HNo.out rfl zeroPack_one rfl zeroPack_one (below_setRow (below_setRow kb.out (Nat.le_refl _) _) (by omega) _)
    · by_cases hlen : xs.length = ys.length
      · obtain ⟨hp, hpf⟩ := HP.out hb1
        obtain ⟨hq, hqf⟩ := HQ.out hb2
        have HPK : Hid (IsPack cs P xs.length ∧ Packed P (bitsF xs xs.length)) := ⟨hp, hpf⟩
        have HQK : Hid (IsPack cs' Q xs.length ∧ Packed Q (bitsF ys xs.length)) := ⟨hlen ▸ hq, hlen ▸ hqf⟩
        have HL := Lib.hid hlen
        have hne : ((xs.length : Int) != (ys.length : Int)) = false := by simp [hlen]
        have HB1 := Lib.hid hb1
        have HB2 := Lib.hid hb2
        have l1 : ∀ o : Obj, (w2.alloc o).cell? ⟨w1.heap.size, 16, none⟩ = some (.int .i64 xs.length) := fun o => by
          rw [← hp.2.2]
          exact cell_of_row _ _ _ _ _ _ ((Below.heap_alloc w2 o _ hlt2).trans g3.out)
        have l2 : (w2.alloc (.cells cs' 75)).cell? ⟨w2.heap.size, 16, none⟩ = some (.int .i64 ys.length) := by
          rw [← hq.2.2]
          exact cell_of_row _ _ _ _ _ _ (heap_alloc_last _ _)
        clear hp hpf hq hqf hlen HP HQ
        go_wp2_with (refine store_pack (.tmp 9) (.tmp 19) w2.heap.size cs' _ (heap_alloc_last _ _) HS'.out rfl H1'.out rfl rfl rfl rfl ?_; rw [World.setRow_alloc_new])
        clear l1 l2 g1 g2 g3 hbw k2z
        generalize w2.alloc (.cells cs' 75) = W at *
        have k4' : Hid ((W.drew.setRow w.heap.size cs).heap[w2.heap.size]? = some (.cells cs' 75 (0, 0))) := (setRow_other _ _ _ _ (by omega)).trans k4.out
        have k2' : Hid ((W.drew.setRow w.heap.size cs).heap[w.heap.size + 1]? = some (.cells zeroPack 75 (0, 0))) := (setRow_other _ _ _ _ (by omega)).trans k2.out
        refine wp_region_any (by kernel_rfl) ?_
        change wpAny _ _ _ _ _ _ _ (World.drew _)
        refine wpAny_ready (rs := [0, 1]) (by kernel_rfl) (by simp) (AllReady.cons rfl (fun K hK => ?_) (AllReady.cons rfl (fun K hK => ?_) AllReady.nil))
        · refine step_load_pack (.tmp 7) w1.heap.size cs k3.out HS.out rfl rfl rfl (hK _ _ ?_)
          clear hK K
          refine wpAny_ready (rs := [1, 2]) (by kernel_rfl) (by simp) (AllReady.cons rfl (fun K hK => ?_) (AllReady.cons rfl (fun K hK => ?_) AllReady.nil))
          · refine step_load_pack (.tmp 9) w2.heap.size cs' k4.out HS'.out rfl rfl rfl (hK _ _ ?_)
            clear hK K
            refine wpAny_ready (rs := [2]) (by kernel_rfl) (by simp) (AllReady.cons rfl (fun K hK => ?_) AllReady.nil)
            refine step_store_pack (.tmp 4) (.tmp 36) w.heap.size cs zeroPack k1.out HS.out rfl H1.out rfl rfl rfl rfl (hK _ _ ?_)
            clear hK K
            refine wpAny_ready (rs := [3]) (by kernel_rfl) (by simp) (AllReady.cons rfl (fun K hK => ?_) AllReady.nil)
            refine step_store_pack (.tmp 5) (.tmp 37) (w.heap.size + 1) cs' zeroPack k2'.out HS'.out rfl H1'.out rfl rfl rfl rfl (hK _ _ ?_)
            clear hK K
            refine wpAny_ready (rs := [4]) (by kernel_rfl) (by simp) (AllReady.cons rfl (fun K hK => ?_) AllReady.nil)
            go_simp
            refine hK _ _ ?_
            clear hK K
            refine wpAny_done (by kernel_rfl) ?_ _
            go_wp2
            refine bodyPost_ret (results_pair rfl _ _ w.heap.size (w.heap.size + 1) cs cs' rfl rfl ((setRow_other _ _ _ _ (by omega)).trans (setRow_heap _ _ _ _ _ _ k1.out)) (setRow_heap _ _ _ _ _ _ k2'.out) HS.out HS'.out) rfl ?_
            exact pairPost_ok HB1.out HB2.out HL.out HPK.out HQK.out HS.out H1.out HS'.out H1'.out (below_setRow (below_setRow kb.out.drew (Nat.le_refl _) _) (by omega) _)
          · refine step_store_pack (.tmp 4) (.tmp 36) w.heap.size cs zeroPack k1.out HS.out rfl H1.out rfl rfl rfl rfl (hK _ _ ?_)
            clear hK K
            refine wpAny_ready (rs := [1]) (by kernel_rfl) (by simp) (AllReady.cons rfl (fun K hK => ?_) AllReady.nil)
            refine step_load_pack (.tmp 9) w2.heap.size cs' k4'.out HS'.out rfl rfl rfl (hK _ _ ?_)
            clear hK K
            refine wpAny_ready (rs := [3]) (by kernel_rfl) (by simp) (AllReady.cons rfl (fun K hK => ?_) AllReady.nil)
            refine step_store_pack (.tmp 5) (.tmp 37) (w.heap.size + 1) cs' zeroPack k2'.out HS'.out rfl H1'.out rfl rfl rfl rfl (hK _ _ ?_)
            clear hK K
            refine wpAny_ready (rs := [4]) (by kernel_rfl) (by simp) (AllReady.cons rfl (fun K hK => ?_) AllReady.nil)
            go_simp
            refine hK _ _ ?_
            clear hK K
            refine wpAny_done (by kernel_rfl) ?_ _
            go_wp2
            refine bodyPost_ret (results_pair rfl _ _ w.heap.size (w.heap.size + 1) cs cs' rfl rfl ((setRow_other _ _ _ _ (by omega)).trans (setRow_heap _ _ _ _ _ _ k1.out)) (setRow_heap _ _ _ _ _ _ k2'.out) HS.out HS'.out) rfl ?_
            exact pairPost_ok HB1.out HB2.out HL.out HPK.out HQK.out HS.out H1.out HS'.out H1'.out (below_setRow (below_setRow kb.out.drew (Nat.le_refl _) _) (by omega) _)
        · refine step_load_pack (.tmp 9) w2.heap.size cs' k4.out HS'.out rfl rfl rfl (hK _ _ ?_)
          clear hK K
          refine wpAny_ready (rs := [0]) (by kernel_rfl) (by simp) (AllReady.cons rfl (fun K hK => ?_) AllReady.nil)
          refine step_load_pack (.tmp 7) w1.heap.size cs k3.out HS.out rfl rfl rfl (hK _ _ ?_)
          clear hK K
          refine wpAny_ready (rs := [2]) (by kernel_rfl) (by simp) (AllReady.cons rfl (fun K hK => ?_) AllReady.nil)
          refine step_store_pack (.tmp 4) (.tmp 36) w.heap.size cs zeroPack k1.out HS.out rfl H1.out rfl rfl rfl rfl (hK _ _ ?_)
          clear hK K
          refine wpAny_ready (rs := [3]) (by kernel_rfl) (by simp) (AllReady.cons rfl (fun K hK => ?_) AllReady.nil)
          refine step_store_pack (.tmp 5) (.tmp 37) (w.heap.size + 1) cs' zeroPack k2'.out HS'.out rfl H1'.out rfl rfl rfl rfl (hK _ _ ?_)
          clear hK K
          refine wpAny_ready (rs := [4]) (by kernel_rfl) (by simp) (AllReady.cons rfl (fun K hK => ?_) AllReady.nil)
          go_simp
          refine hK _ _ ?_
          clear hK K
          refine wpAny_done (by kernel_rfl) ?_ _
          go_wp2
          refine bodyPost_ret (results_pair rfl _ _ w.heap.size (w.heap.size + 1) cs cs' rfl rfl ((setRow_other _ _ _ _ (by omega)).trans (setRow_heap _ _ _ _ _ _ k1.out)) (setRow_heap _ _ _ _ _ _ k2'.out) HS.out HS'.out) rfl ?_
          exact pairPost_ok HB1.out HB2.out HL.out HPK.out HQK.out HS.out H1.out HS'.out H1'.out (below_setRow (below_setRow kb.out.drew (Nat.le_refl _) _) (by omega) _)
      · have l1 : ∀ o : Obj, (w2.alloc o).cell? ⟨w1.heap.size, 16, none⟩ = some (.int .i64 xs.length) := fun o => by
          rw [← (HP.out hb1).1.2.2]
          exact cell_of_row _ _ _ _ _ _ ((Below.heap_alloc w2 o _ hlt2).trans g3.out)
        have l2 : (w2.alloc (.cells cs' 75)).cell? ⟨w2.heap.size, 16, none⟩ = some (.int .i64 ys.length) := by
          rw [← (HQ.out hb2).1.2.2]
          exact cell_of_row _ _ _ _ _ _ (heap_alloc_last _ _)
        have hne : ((xs.length : Int) != (ys.length : Int)) = true := by simp; omega
        have HNo := Lib.hid (show pairOk xs ys = false by simp [pairOk, hlen])
        clear hlen HP HQ
        go_wp2_with (first | (refine store_pack (.tmp 9) (.tmp 19) w2.heap.size cs' _ (heap_alloc_last _ _) HS'.out rfl H1'.out rfl rfl rfl rfl ?_; rw [World.setRow_alloc_new]) | (refine store_pack (.tmp 4) (.tmp 34) w.heap.size zeroPack zeroPack k1.out rfl rfl zeroPack_one rfl rfl rfl rfl ?_) | (refine store_pack (.tmp 5) (.tmp 35) (w.heap.size + 1) zeroPack zeroPack k2z.out rfl rfl zeroPack_one rfl rfl rfl rfl ?_))
        refine bodyPost_ret (results_pair rfl _ _ w.heap.size (w.heap.size + 1) zeroPack zeroPack rfl rfl ((setRow_other _ _ _ _ (by omega)).trans (setRow_heap _ _ _ _ _ _ k1.out)) (setRow_heap _ _ _ _ _ _ k2z.out) rfl rfl) rfl ?_
        exact pairPost_no HNo.out rfl zeroPack_one rfl zeroPack_one (below_setRow (below_setRow kb.out (Nat.le_refl _) _) (by omega) _)
end Go.Proofs.Ytnmhiagnmfpipaa
