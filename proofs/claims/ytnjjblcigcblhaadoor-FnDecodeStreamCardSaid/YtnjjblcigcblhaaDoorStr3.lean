/-
  What streamSurvivor answers: the survivor of the state 0, linked. Conditions: a list that can be read; the program's two tables of the stream code lie in their variables.
-/
import Derived.Test.YtnjjblcigcblhaaDoorStr2
import Derived.RegionTactic
import Derived.Deep.WholeRow
namespace Go.Proofs.YtnjjblcigcblhaaDoor
open Go.RowKit

/-- Between the rounds: the array of the survivors at place k lies in block g, nothing that was there has changed. -/
def OUT (w W : World) (g k : Nat) (rs : List (Nat × Nat)) : Prop := ∃ pp, W.heap[g]? = some (.cells (rowP pp) 76 (0, 0)) ∧ (∀ i, i < 4 → SvAt W (pp i) (svF rs k i)) ∧ w.heap.size ≤ g ∧ Below w.heap.size w W
theorem OUT.new {w w1 W1 W : World} {rs : List (Nat × Nat)} (hb : Below w.heap.size w w1) (h1 : W1 = w1.alloc (.cells #[.int .i64 0, .int .i64 0, .pointer none] 62))
    (h2 : W = W1.alloc (.cells #[.pointer (some ⟨w1.heap.size, 0, none⟩), .pointer none, .pointer none, .pointer none] 76)) : OUT w W (w1.heap.size + 1) rs.length rs := by
  subst h2
  have hs : W1.heap.size = w1.heap.size + 1 := by rw [h1]; simp
  refine ⟨fun i => if i = 0 then some ⟨w1.heap.size, 0, none⟩ else none, ?_, fun i hi => ?_, by have := hb.size; omega, ?_⟩
  · rw [← hs]; exact heap_alloc_last _ _
  · rw [svF_end rs i hi]
    by_cases e : i = 0
    · simp only [e, if_true]
      refine ⟨w1.heap.size, rfl, by simp; omega, ?_⟩
      rw [(below_new W1 _).cell (p := ⟨w1.heap.size, 1, none⟩) (show w1.heap.size < W1.heap.size by omega), h1]
      exact cell_of_row _ _ 1 _ _ _ (heap_alloc_last _ _)
    · simp only [e, if_false]
      rfl
  · have b1 : Below w.heap.size w W1 := by rw [h1]; exact hb.alloc hb.size _
    exact b1.alloc b1.size _
theorem infoP : (Tryd.prog.info? 76).map (·.size) = some 4 := by kernel_rfl
theorem loadP {ops : Array Oper} {rest : List Oper} {o : Oper} {a : Act} {w : World} {Q : Exit → Act → World → Prop} (x : Operand) (g : Nat) (p : Nat → Option Addr)
    (hg : w.heap[g]? = some (.cells (rowP p) 76 (0, 0)))
    (hgd : o.guard = none) (ho : o.op = .load 76 x) (hx : a.eval x = .pointer (some ⟨g, 0, none⟩))
    (h : wpList Tryd.prog ops Q rest (a.put o.dst (.agg (rowP p))) w) : wpList Tryd.prog ops Q (o :: rest) a w :=
  wpList_load_row hgd 76 x ho g hx 76 (rowP p) (0, 0) _ hg Tryd.underlying76 rfl (by rw [infoP]; rfl) h
theorem rowP_one (p : Nat → Option Addr) : (rowP p).all (·.oneCell') = true := by simp [rowP, Value.oneCell']
theorem storeP {ops : Array Oper} {rest : List Oper} {o : Oper} {a : Act} {w : World} {Q : Exit → Act → World → Prop} (x y : Operand) (g : Nat) (p old : Nat → Option Addr)
    (hg : w.heap[g]? = some (.cells (rowP old) 76 (0, 0)))
    (hgd : o.guard = none) (ho : o.op = .store 76 x y) (hx : a.eval x = .pointer (some ⟨g, 0, none⟩)) (hy : a.eval y = .agg (rowP p))
    (h : ∀ W, Hid (W = w.setRow g (rowP p)) → wpList Tryd.prog ops Q rest (a.put o.dst undef) W) : wpList Tryd.prog ops Q (o :: rest) a w :=
  wpList_store_row hgd 76 x y ho g (rowP p) hx hy 76 (rowP old) hg (by rw [infoP]; rfl) rfl (rowP_one p) (h _ rfl)
theorem IN.new {w wr W : World} {g k r0 r1 : Nat} {rs : List (Nat × Nat)} {G : Nat → Option Surv} {pp : Nat → Option Addr} (h1 : wr.heap[g]? = some (.cells (rowP pp) 76 (0, 0))) (h2 : ∀ i, i < 4 → SvAt wr (pp i) (svF rs k i)) (h3 : w.heap.size ≤ g) (h4 : Below w.heap.size w wr)
    (hW : W = ((wr.alloc (.cells #[.int .i64 r0, .int .i64 r1] 43)).alloc (.cells #[.pointer none, .pointer none, .pointer none, .pointer none] 76)).drew) :
    IN w W g (wr.heap.size + 1) wr.heap.size r0 r1 (svF rs k) G pp (fun _ => none) 0 := by
  subst hW
  have hb : Below wr.heap.size wr ((wr.alloc (.cells #[.int .i64 r0, .int .i64 r1] 43)).alloc (.cells #[.pointer none, .pointer none, .pointer none, .pointer none] 76)).drew := ((below_new wr _).alloc (by simp) _).drew
  exact ⟨⟨⟨(hb.block _ (lt_of_heap h1)).trans h1, heap_last2 wr _ _, heap_prev2 wr _ _⟩, fun i hi => (h2 i hi).next hb, fun i _ => rfl⟩, ⟨by have := lt_of_heap h1; omega, by omega⟩, ⟨h3, h4.size⟩, Below.next h4 (Nat.le_refl _) hb⟩
theorem OUT.copied {w W W' : World} {g h R r0 r1 p : Nat} {rs : List (Nat × Nat)} {F : Nat → Option Surv} {pp qq : Nat → Option Addr} (hp : p < rs.length) (hr0 : r0 = (rs.getD p (0, 0)).1) (hr1 : r1 = (rs.getD p (0, 0)).2)
    (H : IN w W g h R r0 r1 F (fun i => accOf i r0 r1 (svF rs (p + 1)) 2) pp qq 4) (hW : Hid (W' = W.setRow g (rowP qq))) : OUT w W' g p rs := by
  obtain ⟨⟨⟨h1, h2, h3⟩, h4, h5⟩, h6, h7, h9⟩ := H
  have hW' := hW.out
  subst hW'
  have hbel : Below w.heap.size W (W.setRow g (rowP qq)) := below_setRow (Below.refl _ _) h7.1 _
  have hg := setRow_heap W g (rowP pp) (rowP qq) _ _ h1
  refine ⟨qq, hg, fun i hi => ?_, h7.1, h9.trans hbel⟩
  have h := h5 i hi
  rw [if_pos hi] at h
  have h' : SvAt W (qq i) (accOf i r0 r1 (svF rs (p + 1)) 2) := h
  rw [hr0, hr1, svF_step hp hi] at h'
  exact h'.store h1 (by simp) fun j hj => setRow_other _ _ _ _ hj
def SurvPost (xs : List Int) (w : World) (e : Ending) (w' : World) : Prop := (if codedOk xs then ∃ b, e = .returned (.pointer (some ⟨b, 0, none⟩)) ∧ Node w' b (errS (prs xs)) (allS (prs xs)) else e = .returned (.pointer none)) ∧ Below w.heap.size w w'
set_option maxHeartbeats 1000000 in
theorem streamSurvivor_any (a : Option Addr) (c : Nat) (xs : List Int) (w : World) (hx : Ints .i64 w w.heap.size a xs) (hm : xs.length ≤ maxLen) (hT : StrTabs w) :
    Calls Tryd.prog 43 #[.slice a xs.length c] w (SurvPost xs w) := by
  have HV := Lib.hid (codedStreamValid_any a c w.heap.size xs w hx (Nat.le_refl _) hm)
  clear hm
  cases hok : codedOk xs
  · have HP := Lib.hid (show ∀ w', Below w.heap.size w w' → SurvPost xs w (.returned (.pointer none)) w' from fun w' hb => ⟨by rw [hok]; rfl, hb⟩)
    rw [hok] at HV
    clear hx hT hok
    go_enter Tryd.func43, Tryd.ntmps43
    go_wp2_with (go_at_call 53; refine HV.out.mono ?_; rintro e w1 ⟨rfl, b1⟩; have B1 := Lib.hid b1; clear b1)
    go_ret
    exact HP.out _ B1.out
  · have HP := Lib.hid (show ∀ w' b, Node w' b (errS (prs xs)) (allS (prs xs)) → Below w.heap.size w w' → SurvPost xs w (.returned (.pointer (some ⟨b, 0, none⟩))) w' from fun w' b hn hb => ⟨by rw [hok]; exact ⟨b, rfl, hn⟩, hb⟩)
    obtain ⟨l1, l2, l3, l4⟩ := codedOk_parts hok
    rw [hok] at HV
    have HX := Lib.hid hx
    have HT := Lib.hid hT
    clear hx hT hok
    go_enter Tryd.func43, Tryd.ntmps43
    go_wp2_with (go_at_call 53; refine HV.out.mono ?_; rintro e w1 ⟨rfl, b1⟩; have B1 := Lib.hid b1; clear b1)
    obtain ⟨rs, hrs⟩ : ∃ rs, rs = prs xs := ⟨_, rfl⟩
    have hrl : rs.length = xs.length / 2 := by rw [hrs, prs_length]
    have O0 := Lib.hid (OUT.new (rs := rs) B1.out rfl rfl)
    have HRS := Lib.hid (And.intro hrs (And.intro hrl (show Pairs2 rs by rw [hrs]; exact prs_pairs l4)))
    rw [← hrs] at HP
    obtain ⟨g, hg⟩ : ∃ g, g = w1.heap.size + 1 := ⟨_, rfl⟩
    rw [← hg] at O0
    generalize (w1.alloc (.cells #[.int .i64 0, .int .i64 0, .pointer none] 62)).alloc (.cells #[.pointer (some ⟨w1.heap.size, 0, none⟩), .pointer none, .pointer none, .pointer none] 76) = W0 at *
    rw [← hg]
    have HG := Lib.hid hg
    clear hg hrs hrl
    go_loopw [4] (fun v wr => ∃ (k : Nat) (z : Int), 2 * k ≤ xs.length ∧ z = 2 * (k : Int) - 2 ∧ v = .int .i64 z ∧ OUT w wr g k rs) (fun v _ => (intOf v + 2).toNat)
    case atStart => exact ⟨rs.length, (xs.length : Int) - 2, by have := HRS.out.2.1; omega, by have := HRS.out.2.1; omega, rfl, O0.out⟩
    case round =>
      obtain ⟨k, z, hk, hz, rfl, pp, hgp, hsv, hwg, hbel⟩ := hrel
      have HO := Lib.hid (And.intro hgp (And.intro hsv (And.intro hwg hbel)))
      cases k with
      | zero =>
        obtain rfl : z = -2 := by omega
        have hs0 := hsv 0 (by omega)
        have hc0 := rowP_cell hgp (i := 0) (by omega)
        rw [show svF rs 0 0 = some (errS rs, allS rs) from sv_eq rs] at hs0
        obtain ⟨b, hb, hn⟩ := hs0
        rw [hb] at hc0
        have HE := Lib.hid (HP.out wr b hn hbel)
        clear hgp hsv hbel hb hn hz
        go_wp2
        go_ret
        exact HE.out
      | succ p =>
        obtain ⟨q, hq⟩ : ∃ q, q = 2 * p := ⟨_, rfl⟩
        obtain rfl : z = (q : Int) := by omega
        clear hz
        have hql : q + 1 < xs.length := by omega
        obtain ⟨b, off, rfl, hb, hc0⟩ := (HX.out.below hbel).at_ (show q < xs.length by omega)
        obtain ⟨b', off', e', hb', hc1⟩ := (HX.out.below hbel).at_ hql
        injection e' with e'
        injection e' with e1 e2 _
        subst e1 e2
        obtain ⟨r0, hr0⟩ : ∃ n, n = (rs.getD p (0, 0)).1 := ⟨_, rfl⟩
        obtain ⟨r1, hr1⟩ : ∃ n, n = (rs.getD p (0, 0)).2 := ⟨_, rfl⟩
        have hpr := prs_get (xs := xs) (k := p) (by omega)
        rw [← HRS.out.1, ← hq] at hpr
        have hb0 : el xs q = (r0 : Int) ∧ r0 < 2 := by
          rw [hr0, hpr]
          rcases isBit_cases (List.all_eq_true.1 l4 _ (el_mem (show q < xs.length by omega))) with e | e <;> rw [e] <;> exact ⟨rfl, by simp⟩
        have hb1 : el xs (q + 1) = (r1 : Int) ∧ r1 < 2 := by
          rw [hr1, hpr]
          rcases isBit_cases (List.all_eq_true.1 l4 _ (el_mem hql)) with e | e <;> rw [e] <;> exact ⟨rfl, by simp⟩
        obtain ⟨hb0, h0⟩ := hb0
        obtain ⟨hb1, h1⟩ := hb1
        rw [hb0] at hc0
        rw [hb1] at hc1
        obtain ⟨q1, hq1⟩ : ∃ q1, q1 = q + 1 := ⟨_, rfl⟩
        rw [← hq1] at hc1 hql
        have hw1 : IntKind.i64.wrap ((q : Int) + 1) = (q1 : Int) := by rw [IntKind.wrap_i64]; omega
        have HR := Lib.hid (And.intro hr0 hr1)
        have hqp : q < xs.length := by omega
        have HQ := Lib.hid (And.intro hq hq1)
        have hw0 : (0 : Int) ≤ (q : Int) := by omega
        have hbw : b < wr.heap.size := Nat.lt_of_lt_of_le hb hbel.size
        clear hq hq1 hr0 hr1 hpr hb0 hb1 hgp hsv
        go_wp2
        go_region
        all_goals
          have I0 := Lib.hid (IN.new (r0 := r0) (r1 := r1) (G := fun i => accOf i r0 r1 (svF rs (p + 1)) 2) HO.out.1 HO.out.2.1 HO.out.2.2.1 HO.out.2.2.2 rfl)
          clear hc0 hc1 hw1 hbw hb hbel
          go_wp2
          generalize ((wr.alloc (.cells #[.int .i64 r0, .int .i64 r1] 43)).alloc (.cells #[.pointer none, .pointer none, .pointer none, .pointer none] 76)).drew = W2 at *
          generalize wr.heap.size = R at *
          go_loopw [31] (fun v wr => ∃ (j : Nat) (qq : Nat → Option Addr), j ≤ 4 ∧ v = .int .i64 (j : Nat) ∧ IN w wr g (R + 1) R r0 r1 (svF rs (p + 1)) (fun i => accOf i r0 r1 (svF rs (p + 1)) 2) pp qq j) (fun v _ => 4 - (intOf v).toNat)
          case atStart => exact ⟨0, fun _ => none, by omega, rfl, I0.out⟩
          case round =>
            obtain ⟨j, qq, hj, rfl, hin⟩ := hrel
            have HI := Lib.hid hin
            have hRW := hin.2.1
            have cG0 := rowP_cell hin.1.1.1 (i := 0) (by omega)
            have cG1 := rowP_cell hin.1.1.1 (i := 1) (by omega)
            have cG2 := rowP_cell hin.1.1.1 (i := 2) (by omega)
            have cG3 := rowP_cell hin.1.1.1 (i := 3) (by omega)
            have cR0 : wr.cell? ⟨R, 0, none⟩ = some (.int .i64 (r0 : Int)) := cell_of_row _ _ 0 _ _ _ hin.1.1.2.2
            have cR1 : wr.cell? ⟨R, 1, none⟩ = some (.int .i64 (r1 : Int)) := cell_of_row _ _ 1 _ _ _ hin.1.1.2.2
            by_cases hlt : j < 4
            · have HC := Lib.hid (survivorOf_any j r0 r1 pp (svF rs (p + 1)) wr hlt h0 h1 (HT.out.next hin.2.2.2) hin.1.2.1 (fun t q ht e => svF_le HRS.out.2.2 (by have := HRS.out.2.1; omega) ht e))
              clear hin
              go_wp2_with fail
              refine HC.out.mono ?_
              rintro e w3 ⟨q3, rfl, hq3, hb3⟩
              have HI3 := Lib.hid (HI.out.next hb3)
              have HS3 := Lib.hid ((HI.out.next hb3).set hlt hq3)
              have cH := rowP_cell HI3.out.1.1.2.1 hlt
              have fH : w3.frozen? ⟨R + 1, j, none⟩ = false := by simp [World.frozen?, HI3.out.1.1.2.1]
              clear hq3 hb3 HC HI cG0 cG1 cG2 cG3 cR0 cR1
              go_wp2
              go_roundw
              case rel => exact ⟨j + 1, _, by omega, by go_num, HS3.out⟩
              case measure => simp [intOf]; omega
            · obtain rfl : j = 4 := by omega
              clear hin cG0 cG1 cG2 cG3 cR0 cR1
              have hzz : IntKind.i64.wrap ((q : Int) - 2) = (q : Int) - 2 := by rw [IntKind.wrap_i64]; omega
              go_wp2_with (first
                | (refine loadP (.tmp 6) (R + 1) qq HI.out.1.1.2.1 rfl rfl rfl ?_)
                | (refine storeP (.tmp 3) (.tmp 41) g qq pp HI.out.1.1.1 rfl rfl rfl rfl ?_; intro W4 hW4; have HO4 := Lib.hid (OUT.copied (by have := HRS.out.2.1; omega) HR.out.1 HR.out.2 HI.out hW4); clear hW4))
              go_roundw
              case rel => exact ⟨p, (q : Int) - 2, by omega, by have := HQ.out.1; omega, rfl, HO4.out⟩
              case measure => simp [intOf]; omega
end Go.Proofs.YtnjjblcigcblhaaDoor
