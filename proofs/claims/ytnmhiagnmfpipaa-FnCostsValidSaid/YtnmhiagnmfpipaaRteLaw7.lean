/-
  The law of tables of costs, walked: it returns true for every list of bytes. Condition: bytes that can be read.
-/
import Derived.Test.YtnmhiagnmfpipaaRteLaw2
namespace Go.Proofs.Ytnmhiagnmfpipaa
open Go.RowKit

set_option maxRecDepth 10000 in
theorem run_app0C (w : World) (ty : TypeId) (base z : Nat) (src : Option Addr) (m c B : Nat) (xs : List Int) (hg : Grow .i64 3 w base (some ⟨z, 0, none⟩) 0 0 []) (hy : Ints .i64 w B src xs) (hm : xs.length = m) (hn : m < 1099511627775) (hb : base ≤ w.heap.size) (hs : ∃ ad, src = some ad) :
    ∃ a' cap' w', (Builtin.append_ #[27, 27] ty #[.slice (some ⟨z, 0, none⟩) 0 0, .slice src m c]).run Try.prog w = .ok (.slice a' m cap') w' ∧ Grow .i64 3 w' base a' m cap' xs ∧ Below base w w' := by
  obtain ⟨ad, rfl⟩ := hs
  obtain ⟨i0, hi0, hz0, hz1, hz2⟩ := info_parts Try.infoInt
  obtain ⟨v', w', hr, h2, h3, h4⟩ := run_append_own (P := Try.prog) w base 27 ty 3 i0 (.int .i64 0) 1 8 Try.underlying27 hi0 hz0 hz1 hz2 rfl (by omega) _ 0 _ hg ad m c (xs.map (Value.int .i64)) (by simp [hm])
    (fun j u hj => by
      have hjl : j < xs.length := by have := (List.getElem?_eq_some_iff.1 hj).1; simpa using this
      obtain ⟨b, off, e, _, hc⟩ := hy.at_ hjl
      injection e with e
      subst e
      have hadd : (⟨b, off, none⟩ : Addr).add j = ⟨b, off + j, none⟩ := by unfold Addr.add; split <;> simp_all
      rw [hadd, hc]
      simp [hjl] at hj
      rw [← hj, el_lt hjl]) (ints_oneCell _ _) (by unfold maxLen; omega) (by omega) hb
  try rw [Nat.zero_add] at hr
  try rw [Nat.zero_add] at h2
  rcases h2.2 with ⟨e, h0⟩ | ⟨g, c', cur, e, _⟩
  · exact absurd (h4.1 e).1 (by simp)
  · subst e
    exact ⟨_, _, w', hr, by simpa [Grow] using h2, (Below.refl _ _).grown h3 hb hg.own⟩
section
variable {w : World} {ops : Array Oper} {o : Oper} {a : Act} {Q : Exit → Act → World → Prop}
set_option maxRecDepth 10000 in
theorem step_app0C {K : Act → World → Prop} {E : Prop} (s x : Operand) (base z : Nat) (src : Option Addr) (m c B : Nat) (xs : List Int)
    (hgd : o.guard = none) (ho : o.op = .call { callee := .builtin .append, args := #[s, x], argTypes := #[27, 27] }) (hs : a.eval s = .slice (some ⟨z, 0, none⟩) 0 0) (hx : a.eval x = .slice src m c)
    (hg : Grow .i64 3 w base (some ⟨z, 0, none⟩) 0 0 []) (hy : Ints .i64 w B src xs) (hm : xs.length = m) (hn : m < 1099511627775) (hb : base ≤ w.heap.size) (he : ∃ ad, src = some ad)
    (h : ∀ a' cap' w', Grow .i64 3 w' base a' m cap' xs → Below base w w' → K (a.put o.dst (.slice a' m cap')) w') : if Region.wanted o (yielded ops a.tmps) = true then Oper.wp Try.prog o a w K Q else E := by
  rw [if_pos (by simp [Region.wanted, hgd])]
  obtain ⟨a', cap', w', hr, h1, h2⟩ := run_app0C w o.type base z src m c B xs hg hy hm hn hb he
  exact Lib.wp_append_run w s x _ _ ho _ _ hs hx _ _ hr (h a' cap' w' h1 h2)
set_option maxRecDepth 10000 in
/-- A list of rows appended to a list of one row of the call's own. -/
theorem step_appendC {K : Act → World → Prop} {E : Prop} (s x : Operand) (base h1 n : Nat) (v0 : Value) (ad : Addr) (m c1 : Nat) (news : List Value)
    (hgd : o.guard = none) (ho : o.op = .call { callee := .builtin .append, args := #[s, x], argTypes := #[23, 23] }) (hs : a.eval s = .slice (some ⟨h1, 0, none⟩) 1 1) (hx : a.eval x = .slice (some ad) m c1)
    (hg : GrowV w base (some ⟨h1, 0, none⟩) 1 1 [v0]) (hl : news.length = m) (hc : ∀ j u, news[j]? = some u → w.cell? (ad.add j) = some u) (h1c : ∀ u ∈ news, u.oneCell' = true) (hm : m < 1048576) (hn : 1 + m = n) (hb : base ≤ w.heap.size)
    (h : ∀ a' cap' w', GrowV w' base a' n cap' ([v0] ++ news) → Below base w w' → K (a.put o.dst (.slice a' n cap')) w') : if Region.wanted o (yielded ops a.tmps) = true then Oper.wp Try.prog o a w K Q else E := by
  subst hn
  rw [if_pos (by simp [Region.wanted, hgd])]
  obtain ⟨i0, hi0, hz0, hz1, hz2⟩ := info_parts Try.infoRowD
  refine wp_append_own w s x _ ho base 27 i0 (.slice none 0 0) 1 24 Try.underlying23 hi0 hz0 hz1 hz2 rfl (by omega) _ 1 _ hs hg ad m c1 news hx (by omega) hc h1c (by unfold maxLen; omega) (by omega) hb ?_
  intro v' w' h2 h3 _
  have hbel := hg.keepsBelow h3 hb
  rcases h2.2 with ⟨_, h0⟩ | ⟨g, c, cur, e, _⟩
  · omega
  · subst e
    exact h _ _ _ h2 hbel
end
theorem Grow.cellC {k : IntKind} {t : TypeId} {w : World} {base n cap b i : Nat} {xs : List Int} (h : Grow k t w base (some ⟨b, 0, none⟩) n cap xs) (hi : i < n) : w.cell? ⟨b, i, none⟩ = some (.int k (el xs i)) ∧ w.frozen? ⟨b, i, none⟩ = false := by
  obtain ⟨b', f, e, _, _, hc, hr, hf⟩ := h.row (by omega)
  injection e with e
  injection e with e
  subst e
  exact ⟨by rw [hr.cell (by omega), hf i hi], hr.frozen i⟩
set_option maxRecDepth 10000 in
theorem growV_oneC (W : World) (z : Option Addr) (n c : Nat) : GrowV (W.alloc (.cells #[.slice z n c] 27)) W.heap.size (some ⟨W.heap.size, 0, none⟩) 1 1 [.slice z n c] :=
  ⟨rfl, .inr ⟨W.heap.size, 1, #[.slice z n c], rfl, Nat.le_refl _, heap_alloc_last _ _, Nat.le_refl _, by unfold maxLen; omega, rfl, rfl⟩⟩
/-- Where the rows lie. -/
def RowsAt (w : World) (g off : Nat) (R : List (List Int)) (q : Nat → Option Addr × Nat) : Prop :=
  ∀ i, i < R.length → w.cell? ⟨g, off + i, none⟩ = some (.slice (q i).1 (rwI R i).length (q i).2) ∧ (rwI R i).length ≤ (q i).2 ∧ (q i).2 ≤ maxLen ∧ Ints .i64 w w.heap.size (q i).1 (rwI R i)
theorem rowsAt_of {w : World} {g off : Nat} {R : List (List Int)} (h : ∀ i, i < R.length → ∃ ad cp, w.cell? ⟨g, off + i, none⟩ = some (.slice ad (rwI R i).length cp) ∧ (rwI R i).length ≤ cp ∧ cp ≤ maxLen ∧ Ints .i64 w w.heap.size ad (rwI R i)) : ∃ q, RowsAt w g off R q := by
  have each : ∀ i, i < R.length → ∃ q : Option Addr × Nat, w.cell? ⟨g, off + i, none⟩ = some (.slice q.1 (rwI R i).length q.2) ∧ (rwI R i).length ≤ q.2 ∧ q.2 ≤ maxLen ∧ Ints .i64 w w.heap.size q.1 (rwI R i) := fun i hi => by
    obtain ⟨ad, cp, h1⟩ := h i hi
    exact ⟨(ad, cp), h1⟩
  exact Go.Deep.choose_lt each
/-- The rows from the second on. -/
def nwL (R : List (List Int)) (q : Nat → Option Addr × Nat) (n : Nat) : List Value := (List.range (n - 1)).map fun j => .slice (q (j + 1)).1 (rwI R (j + 1)).length (q (j + 1)).2
theorem nwL_len (R : List (List Int)) (q : Nat → Option Addr × Nat) (n : Nat) : (nwL R q n).length = n - 1 := by simp [nwL]
theorem nwL_one (R : List (List Int)) (q : Nat → Option Addr × Nat) (n : Nat) : ∀ u ∈ nwL R q n, u.oneCell' = true := fun u hu => by
  obtain ⟨j, _, rfl⟩ := List.mem_map.1 hu
  rfl
theorem nwL_cells {w w' : World} {g off n : Nat} {R : List (List Int)} {q : Nat → Option Addr × Nat} (h : RowsAt w g off R q) (hn : n = R.length) (hb : Below w.heap.size w w') : ∀ j u, (nwL R q n)[j]? = some u → w'.cell? ((⟨g, off + 1, none⟩ : Addr).add j) = some u := fun j u hj => by
  have hjl : j < n - 1 := by
    have := (List.getElem?_eq_some_iff.1 hj).1
    rwa [nwL_len] at this
  have h1 : Value.slice (q (j + 1)).1 (rwI R (j + 1)).length (q (j + 1)).2 = u := by simpa [nwL, hjl] using hj
  have h2 := (h (j + 1) (by omega)).1
  have h3 : (⟨g, off + 1, none⟩ : Addr).add j = ⟨g, off + (j + 1), none⟩ := by simp [Addr.add, Nat.add_assoc, Nat.add_comm 1 j]
  rw [h3, ← h1]
  exact cell_next h2 hb
theorem rwI_tail (xs : List Int) (R : List (List Int)) (j : Nat) : rwI (xs :: R.tail) (j + 1) = rwI R (j + 1) := by
  unfold rwI
  rw [List.getD_eq_getElem?_getD, List.getD_eq_getElem?_getD, List.getElem?_cons_succ, List.getElem?_tail]
theorem tbl_bad {xs : List Int} {R : List (List Int)} (h : el xs 0 = 5) : decide (TiOk (xs :: R.tail)) = false := decide_eq_false fun hk => by
  have h1 := tiOk_self hk (i := 0) (by simp)
  rw [show tg (xs :: R.tail) 0 0 = el xs 0 from rfl] at h1
  omega
/-- The rows behind the append: one of its own, then the old ones from the second on. -/
theorem rows_afterC {w W' : World} {base g off cap' n c6 : Nat} {a' a6 : Option Addr} {R : List (List Int)} {q : Nat → Option Addr × Nat} {xs : List Int} (hn : n = R.length) (h1 : 1 ≤ n) (hq : RowsAt w g off R q) (hb : Below w.heap.size w W')
    (hz : Ints .i64 W' W'.heap.size a6 xs) (hx : xs.length = n) (hc : n ≤ c6 ∧ c6 ≤ maxLen) (hg : GrowV W' base a' n cap' ([.slice a6 n c6] ++ nwL R q n)) :
    RowsL W' W'.heap.size a' (xs :: R.tail) := fun _ => by
  obtain ⟨g', cur, rfl, _, hh, hcl⟩ := hg.at_ (by omega)
  refine ⟨g', 0, rfl, (Array.getElem?_eq_some_iff.1 hh).1, fun i hi => ?_⟩
  have hi' : i < n := by simp at hi; omega
  rw [Nat.zero_add]
  rcases Nat.eq_zero_or_pos i with rfl | hp
  · have e : rwI (xs :: R.tail) 0 = xs := rfl
    rw [e, hx]
    exact ⟨a6, c6, hcl 0 _ (by omega) rfl, hc.1, hc.2, hz⟩
  · obtain ⟨j, rfl⟩ : ∃ j, i = j + 1 := ⟨i - 1, by omega⟩
    rw [rwI_tail]
    obtain ⟨_, h3, h4, h5⟩ := hq (j + 1) (by omega)
    refine ⟨_, _, hcl (j + 1) _ (by omega) ?_, h3, h4, (h5.below hb).more hb.size⟩
    simp [nwL, show j < n - 1 by omega]
set_option maxRecDepth 10000 in
/-- What the bad table is, and that it is refused. -/
theorem bad_end {w u0 u2 u4 : World} {g off n c6 c9 : Nat} {a6 a9 : Option Addr} {R : List (List Int)} {q : Nat → Option Addr × Nat} (hn : n = R.length) (h1 : 1 ≤ n) (h0 : (rwI R 0).length = n) (hq : RowsAt u0 g off R q) (hw : Below w.heap.size w u0)
    (hg : Grow .i64 3 u2 u0.heap.size a6 n c6 (rwI R 0)) (hb2 : Below u0.heap.size u0 u2) (hb4 : Below u2.heap.size u2 u4) (hv : GrowV u4 u2.heap.size a9 n c9 ([.slice a6 n c6] ++ nwL R q n)) :
    ∃ g9 b6, a9 = some ⟨g9, 0, none⟩ ∧ a6 = some ⟨b6, 0, none⟩ ∧ u4.cell? ⟨g9, 0, none⟩ = some (.slice (some ⟨b6, 0, none⟩) n c6) ∧ u4.cell? ⟨b6, 0, none⟩ = some (.int .i64 (el (rwI R 0) 0)) ∧ u4.frozen? ⟨b6, 0, none⟩ = false ∧
      Calls Try.prog 16 #[.slice (some ⟨g9, 0, none⟩) n c9] (u4.setCell ⟨b6, 0, none⟩ (.int .i64 5)) (fun e w' => e = .returned (.bool false) ∧ u4.setCell ⟨b6, 0, none⟩ (.int .i64 5) = w') ∧ Below w.heap.size w (u4.setCell ⟨b6, 0, none⟩ (.int .i64 5)) := by
  have hg4 := hg.below hb4
  have hroom := hg4.room
  obtain ⟨b6, rfl, hb6, hblk⟩ : ∃ b6, a6 = some ⟨b6, 0, none⟩ ∧ u0.heap.size ≤ b6 ∧ ∃ c fr, u4.heap[b6]? = some (.cells c 3 fr) := by
    rcases hg4.2 with ⟨_, h⟩ | ⟨b, c, cur, e, hb, hh, _⟩
    · omega
    · injection e with e1 _ _
      exact ⟨b, e1, hb, cur, _, hh⟩
  obtain ⟨c0, fr, hh6⟩ := hblk
  obtain ⟨g9, cur, rfl, hg9, _, hcl⟩ := hv.at_ (by omega)
  have hcell := hg4.cellC (i := 0) (by omega)
  have B4 : Below u0.heap.size u0 u4 := hb2.trans (hb4.mono hb2.size)
  have B5 : Below u0.heap.size u0 (u4.setCell ⟨b6, 0, none⟩ (.int .i64 5)) := B4.setCell (p := ⟨b6, 0, none⟩) hb6 _
  have hs := Lib.grownBy_setCell u4 b6 0 (.int .i64 5)
  have G5 := hg4.put (k := 0) 5
  have V5 := hv.typed hs hh6 (by decide)
  have hx : ((rwI R 0).set 0 5).length = n := by rw [List.length_set, h0]
  have h5 : el ((rwI R 0).set 0 5) 0 = 5 := by
    unfold el
    rw [List.getD_eq_getElem?_getD, List.getElem?_set_self (by omega)]; rfl
  have RA := rows_afterC hn h1 hq B5 G5.ints hx hroom V5
  have C := costsValid_is (some ⟨g9, 0, none⟩) c9 _ _ false _ RA (tbl_bad h5)
  have hlen : (((rwI R 0).set 0 5) :: R.tail).length = n := by simp [hn]; omega
  rw [hlen] at C
  exact ⟨g9, b6, rfl, rfl, hcl 0 _ (by omega) rfl, hcell.1, hcell.2, C, Below.next hw (Nat.le_refl _) B5⟩
set_option maxRecDepth 100000 in
set_option maxHeartbeats 8000000 in
theorem walkCostsValid (a : Option Addr) (c : Nat) (ds : List Int) (w : World) (hx : Ints .u8 w w.heap.size a ds) (hw : ∀ n ∈ ds, (Lit.int .u8 n).wf = true) (hc : ds.length ≤ c) (hcm : c ≤ maxLen) :
    Calls Try.prog 3 #[.slice a ds.length c] w fun e w' => e = .returned (.bool true) ∧ Below w.heap.size w w' := by
  have hb := isByte_of_wf hw
  clear hw
  by_cases hl : ds.length ≤ 1048576
  · have hl' : ¬ (1048576 : Int) < (ds.length : Int) := by omega
    go_enter Try.func3, Try.ntmps3
    go_wp2_with fail
    refine (drawCostsValid_any a c ds w hx hb hc hcm).mono ?_
    rintro e w1 ⟨at_, ct, R, rfl, h7, hct, ht, b1⟩
    have HCT := Lib.hid hct
    have T1 := Lib.hid ht
    have B1 := Lib.hid b1
    have H7 := Lib.hid h7
    clear hx hb hc hcm ht b1 hl hl' hct h7
    obtain ⟨M, hM⟩ : ∃ M, decide (TiOk R) = M := ⟨_, rfl⟩
    have HM := Lib.hid hM
    clear hM
    have zm : (M != M) = false := by simp
    go_wp2_with fail
    refine (costsValid_is at_ ct w1.heap.size R M w1 T1.out HM.out).mono ?_
    rintro e w2 ⟨rfl, e2⟩
    subst e2
    go_wp2_with fail
    refine (specCostsValid_is at_ ct w1.heap.size R M w1 T1.out (by have := H7.out; omega) HM.out).mono ?_
    rintro e w3 ⟨rfl, e3⟩
    subst e3
    have HAL := Lib.hid (aliveR2_from B1.out)
    cases M
    · go_wp2_with fail
      refine HAL.out.mono ?_
      rintro e w5 ⟨rfl, h5⟩
      go_wp2
      go_ret
      exact ⟨rfl, h5⟩
    · have hok := of_decide_eq_true HM.out
      have h1 := H7.out.1
      obtain ⟨g, off, rfl, hgl, hrows⟩ := T1.out (fun e => by rw [e] at h1; simp at h1)
      obtain ⟨q, hq⟩ := rowsAt_of hrows
      obtain ⟨n, hn⟩ : ∃ n, n = R.length := ⟨_, rfl⟩
      have h0l : (rwI R 0).length = n := by rw [hn]; exact tiOk_row hok (by omega)
      have hq0 := hq 0 (by omega)
      rw [h0l] at hq0
      obtain ⟨ad, cp, e0⟩ : ∃ ad cp, q 0 = (ad, cp) := ⟨_, _, rfl⟩
      rw [e0] at hq0
      obtain ⟨hc0, _, _, hi0⟩ := hq0
      obtain ⟨ba, oa, hadd, _⟩ := hi0.at_ (i := 0) (by omega)
      have HAD : Hid (∃ x, ad = some x) := ⟨_, hadd⟩
      have HN := Lib.hid hn
      have HL0 := Lib.hid h0l
      have hn1 : 1 ≤ n := by omega
      have hn10 : n ≤ 10 := by have := hok.1; omega
      have hnc : n ≤ ct := by have := HCT.out.1; omega
      have hcm := HCT.out.2
      rw [Nat.add_zero] at hc0
      have z0 : ((n : Int) == 0) = false := by rw [beq_eq_false_iff_ne]; omega
      have hnN : 0 < n := hn1
      have hnI : (0 : Int) < (n : Int) := by omega
      have hnI1 : (1 : Int) ≤ (n : Int) := by omega
      have HQ : Hid (RowsAt w1.drew g off R q) := hq
      have B0 : Hid (Below w.heap.size w w1.drew) := below_drewN B1.out 1
      have hcl : w1.drew.cell? ⟨g, off, none⟩ = some (.slice ad n cp) := hc0
      have HI0 : Hid (Ints .i64 w1.drew w1.drew.heap.size ad (rwI R 0)) := hi0
      have hcl1 : (w1.drew.alloc (.cells #[] 3)).cell? ⟨g, off, none⟩ = some (.slice ad n cp) := cell_next hcl (alloc_belowX _ _)
      rw [← hn]
      clear hn hok hq hrows h0l e0 hc0 hi0 hadd h1 hgl HAL T1 H7 HM HCT
      go_wp2_with fail
      refine wp_region_any (by kernel_rfl) ?_
      change wpAny _ _ _ _ _ _ _ (World.drew _)
      clear B1
      generalize w1.drew = u0 at *
      have LG1 := Lib.hid (Grow.lit0 .i64 3 u0 u0.heap.size (Nat.le_refl _))
      have B1 := Lib.hid (alloc_belowX u0 (.cells #[] 3))
      have X1 := Lib.hid (HI0.out.below B1.out)
      have S1 := Lib.hid B1.out.size
      have HEND := Lib.hid (fun (u2 u4 : World) a6 c6 a9 c9 hg hb2 hb4 hv => bad_end (w := w) (u0 := u0) (u2 := u2) (u4 := u4) (a6 := a6) (c6 := c6) (a9 := a9) (c9 := c9) HN.out hn1 HL0.out HQ.out B0.out hg hb2 hb4 hv)
      by_cases hct1 : ct = 1
      · subst hct1
        have hnn : n = 1 := by omega
        obtain ⟨NW, hNW⟩ : ∃ NW, NW = nwL R q n := ⟨_, rfl⟩
        have hNW0 : NW = [] := by rw [hNW, hnn]; rfl
        have HNL : Hid (NW.length = 0) := by rw [hNW0]; exact rfl
        have HNW : Hid (∀ u, Below u0.heap.size u0 u → ∀ j v, NW[j]? = some v → u.cell? ((⟨g, off, none⟩ : Addr).add j) = some v) := fun _ _ j v hj => by rw [hNW0] at hj; simp at hj
        have HNO : Hid (∀ u ∈ NW, u.oneCell' = true) := by rw [hNW0]; intro u hu; cases hu
        rw [← hNW] at HEND
        clear hNW hNW0
        have HNN := Lib.hid hnn
        clear hnn
        skip
          -- region 9 one
        refine wpAny_take (i := 1) (v := ?v1) rfl (by kernel_rfl) (by kernel_rfl) (by kernel_rfl) (fun _ _ _ h => h) (Or.inl ⟨by kernel_rfl, ?h1⟩) ?_
        case h1 => intro w; go_simp; try with_reducible rfl
        go_simp
        refine wpAny_take (i := 2) (v := ?v2) rfl (by kernel_rfl) (by kernel_rfl) (by kernel_rfl) (fun _ _ _ h => h) (Or.inl ⟨by kernel_rfl, ?h2⟩) ?_
        case h2 => intro w; go_simp; try with_reducible rfl
        go_simp
        refine wpAny_take (i := 6) (v := ?v3) rfl (by kernel_rfl) (by kernel_rfl) (by kernel_rfl) (fun _ _ _ h => h) (Or.inl ⟨by kernel_rfl, ?h3⟩) ?_
        case h3 => intro w; go_simp; try with_reducible rfl
        go_simp
        refine wpAny_take (i := 7) (v := ?v4) rfl (by kernel_rfl) (by kernel_rfl) (by kernel_rfl) (fun _ _ _ h => h) (Or.inl ⟨by kernel_rfl, ?h4⟩) ?_
        case h4 => intro w; go_simp; try with_reducible rfl
        go_simp
        refine wpAny_ready (rs := [0, 3]) (by kernel_rfl) (by simp) (AllReady.cons rfl (fun K hK => ?_) (AllReady.cons rfl (fun K hK => ?_) AllReady.nil))
        · skip
          go_simp
          refine hK _ _ ?_
          clear hK K
          refine wpAny_ready (rs := [3]) (by kernel_rfl) (by simp) (AllReady.cons rfl (fun K hK => ?_) AllReady.nil)
          go_simp
          refine hK _ _ ?_
          clear hK K
          clear hcl hcl1
          generalize u0.alloc (.cells #[] 3) = u1 at *
          refine wpAny_ready (rs := [4]) (by kernel_rfl) (by simp) (AllReady.cons rfl (fun K hK => ?_) AllReady.nil)
          refine step_app0C (.tmp 25) (.tmp 28) u0.heap.size u0.heap.size ad n cp u0.heap.size (rwI R 0) rfl rfl rfl rfl LG1.out X1.out HL0.out (by omega) S1.out HAD.out ?_
          intro a6 c6 u2 hg hb
          refine hK _ _ ?_
          clear hK K
          have LG2 := Lib.hid hg
          have B2 := Lib.hid (B1.out.trans hb)
          clear hg hb
          refine wpAny_ready (rs := [5]) (by kernel_rfl) (by simp) (AllReady.cons rfl (fun K hK => ?_) AllReady.nil)
          go_simp
          refine hK _ _ ?_
          clear hK K
          have HV3 := Lib.hid (growV_oneC u2 a6 n c6)
          have B3 := Lib.hid (alloc_belowX u2 (.cells #[.slice a6 n c6] 27))
          have S3 := Lib.hid (show u2.heap.size ≤ (u2.alloc (.cells #[.slice a6 n c6] 27)).heap.size by simp)
          have HN3 := Lib.hid (HNW.out _ (B2.out.trans (B3.out.mono B2.out.size)))
          generalize u2.alloc (.cells #[.slice a6 n c6] 27) = u3 at *
          refine wpAny_ready (rs := [8]) (by kernel_rfl) (by simp) (AllReady.cons rfl (fun K hK => ?_) AllReady.nil)
          refine step_appendC (.tmp 30) (.tmp 32) u2.heap.size u2.heap.size n (.slice a6 n c6) ⟨g, off, none⟩ 0 0 NW rfl rfl rfl rfl HV3.out HNL.out HN3.out HNO.out (by omega) (by omega) S3.out ?_
          intro a9 c9 u4 hg hb
          refine hK _ _ ?_
          clear hK K
          have F := Lib.hid (HEND.out u2 u4 a6 c6 a9 c9 LG2.out B2.out (B3.out.trans hb) hg)
          clear hg hb HV3 B3 S3 HN3 B2 LG2
          refine wpAny_take (i := 9) (v := ?v5) rfl (by kernel_rfl) (by kernel_rfl) (by kernel_rfl) (fun _ _ _ h => h) (Or.inl ⟨by kernel_rfl, ?h5⟩) ?_
          case h5 => intro w; go_simp; try with_reducible rfl
          go_simp
          refine wpAny_done (by kernel_rfl) ?_ _
          obtain ⟨g9, b6, rfl, rfl, hg0, hd0, hf0, hfin, hbe⟩ := F.out
          have HFIN := Lib.hid hfin
          have HBE := Lib.hid hbe
          clear hfin hbe F
          go_wp2_with fail
          generalize u4.setCell ⟨b6, 0, none⟩ (.int .i64 5) = u5 at *
          refine HFIN.out.mono ?_
          rintro e u6 ⟨rfl, rfl⟩
          go_wp2
          go_ret
          exact ⟨rfl, HBE.out⟩
        · skip
          go_simp
          refine hK _ _ ?_
          clear hK K
          refine wpAny_ready (rs := [0]) (by kernel_rfl) (by simp) (AllReady.cons rfl (fun K hK => ?_) AllReady.nil)
          go_simp
          refine hK _ _ ?_
          clear hK K
          clear hcl hcl1
          generalize u0.alloc (.cells #[] 3) = u1 at *
          refine wpAny_ready (rs := [4]) (by kernel_rfl) (by simp) (AllReady.cons rfl (fun K hK => ?_) AllReady.nil)
          refine step_app0C (.tmp 25) (.tmp 28) u0.heap.size u0.heap.size ad n cp u0.heap.size (rwI R 0) rfl rfl rfl rfl LG1.out X1.out HL0.out (by omega) S1.out HAD.out ?_
          intro a6 c6 u2 hg hb
          refine hK _ _ ?_
          clear hK K
          have LG2 := Lib.hid hg
          have B2 := Lib.hid (B1.out.trans hb)
          clear hg hb
          refine wpAny_ready (rs := [5]) (by kernel_rfl) (by simp) (AllReady.cons rfl (fun K hK => ?_) AllReady.nil)
          go_simp
          refine hK _ _ ?_
          clear hK K
          have HV3 := Lib.hid (growV_oneC u2 a6 n c6)
          have B3 := Lib.hid (alloc_belowX u2 (.cells #[.slice a6 n c6] 27))
          have S3 := Lib.hid (show u2.heap.size ≤ (u2.alloc (.cells #[.slice a6 n c6] 27)).heap.size by simp)
          have HN3 := Lib.hid (HNW.out _ (B2.out.trans (B3.out.mono B2.out.size)))
          generalize u2.alloc (.cells #[.slice a6 n c6] 27) = u3 at *
          refine wpAny_ready (rs := [8]) (by kernel_rfl) (by simp) (AllReady.cons rfl (fun K hK => ?_) AllReady.nil)
          refine step_appendC (.tmp 30) (.tmp 32) u2.heap.size u2.heap.size n (.slice a6 n c6) ⟨g, off, none⟩ 0 0 NW rfl rfl rfl rfl HV3.out HNL.out HN3.out HNO.out (by omega) (by omega) S3.out ?_
          intro a9 c9 u4 hg hb
          refine hK _ _ ?_
          clear hK K
          have F := Lib.hid (HEND.out u2 u4 a6 c6 a9 c9 LG2.out B2.out (B3.out.trans hb) hg)
          clear hg hb HV3 B3 S3 HN3 B2 LG2
          refine wpAny_take (i := 9) (v := ?v6) rfl (by kernel_rfl) (by kernel_rfl) (by kernel_rfl) (fun _ _ _ h => h) (Or.inl ⟨by kernel_rfl, ?h6⟩) ?_
          case h6 => intro w; go_simp; try with_reducible rfl
          go_simp
          refine wpAny_done (by kernel_rfl) ?_ _
          obtain ⟨g9, b6, rfl, rfl, hg0, hd0, hf0, hfin, hbe⟩ := F.out
          have HFIN := Lib.hid hfin
          have HBE := Lib.hid hbe
          clear hfin hbe F
          go_wp2_with fail
          generalize u4.setCell ⟨b6, 0, none⟩ (.int .i64 5) = u5 at *
          refine HFIN.out.mono ?_
          rintro e u6 ⟨rfl, rfl⟩
          go_wp2
          go_ret
          exact ⟨rfl, HBE.out⟩
          -- end of region 9 one
      · have hctn : ¬ (1 = ct) := fun e => hct1 e.symm
        obtain ⟨NW, hNW⟩ : ∃ NW, NW = nwL R q n := ⟨_, rfl⟩
        have HNL : Hid (NW.length = n - 1) := by rw [hNW]; exact nwL_len _ _ _
        have HNW : Hid (∀ u, Below u0.heap.size u0 u → ∀ j v, NW[j]? = some v → u.cell? ((⟨g, off + 1, none⟩ : Addr).add j) = some v) := by rw [hNW]; exact fun u hb => nwL_cells HQ.out HN.out hb
        have HNO : Hid (∀ u ∈ NW, u.oneCell' = true) := by rw [hNW]; exact nwL_one _ _ _
        rw [← hNW] at HEND
        clear hNW
        skip
          -- region 9 more
        refine wpAny_take (i := 1) (v := ?v7) rfl (by kernel_rfl) (by kernel_rfl) (by kernel_rfl) (fun _ _ _ h => h) (Or.inl ⟨by kernel_rfl, ?h7⟩) ?_
        case h7 => intro w; go_simp; try with_reducible rfl
        go_simp
        refine wpAny_take (i := 2) (v := ?v8) rfl (by kernel_rfl) (by kernel_rfl) (by kernel_rfl) (fun _ _ _ h => h) (Or.inl ⟨by kernel_rfl, ?h8⟩) ?_
        case h8 => intro w; go_simp; try with_reducible rfl
        go_simp
        refine wpAny_take (i := 6) (v := ?v9) rfl (by kernel_rfl) (by kernel_rfl) (by kernel_rfl) (fun _ _ _ h => h) (Or.inl ⟨by kernel_rfl, ?h9⟩) ?_
        case h9 => intro w; go_simp; try with_reducible rfl
        go_simp
        refine wpAny_take (i := 7) (v := ?v10) rfl (by kernel_rfl) (by kernel_rfl) (by kernel_rfl) (fun _ _ _ h => h) (Or.inl ⟨by kernel_rfl, ?h10⟩) ?_
        case h10 => intro w; go_simp; try with_reducible rfl
        go_simp
        refine wpAny_ready (rs := [0, 3]) (by kernel_rfl) (by simp) (AllReady.cons rfl (fun K hK => ?_) (AllReady.cons rfl (fun K hK => ?_) AllReady.nil))
        · skip
          go_simp
          refine hK _ _ ?_
          clear hK K
          refine wpAny_ready (rs := [3]) (by kernel_rfl) (by simp) (AllReady.cons rfl (fun K hK => ?_) AllReady.nil)
          go_simp
          refine hK _ _ ?_
          clear hK K
          clear hcl hcl1
          generalize u0.alloc (.cells #[] 3) = u1 at *
          refine wpAny_ready (rs := [4]) (by kernel_rfl) (by simp) (AllReady.cons rfl (fun K hK => ?_) AllReady.nil)
          refine step_app0C (.tmp 25) (.tmp 28) u0.heap.size u0.heap.size ad n cp u0.heap.size (rwI R 0) rfl rfl rfl rfl LG1.out X1.out HL0.out (by omega) S1.out HAD.out ?_
          intro a6 c6 u2 hg hb
          refine hK _ _ ?_
          clear hK K
          have LG2 := Lib.hid hg
          have B2 := Lib.hid (B1.out.trans hb)
          clear hg hb
          refine wpAny_ready (rs := [5]) (by kernel_rfl) (by simp) (AllReady.cons rfl (fun K hK => ?_) AllReady.nil)
          go_simp
          refine hK _ _ ?_
          clear hK K
          have HV3 := Lib.hid (growV_oneC u2 a6 n c6)
          have B3 := Lib.hid (alloc_belowX u2 (.cells #[.slice a6 n c6] 27))
          have S3 := Lib.hid (show u2.heap.size ≤ (u2.alloc (.cells #[.slice a6 n c6] 27)).heap.size by simp)
          have HN3 := Lib.hid (HNW.out _ (B2.out.trans (B3.out.mono B2.out.size)))
          generalize u2.alloc (.cells #[.slice a6 n c6] 27) = u3 at *
          refine wpAny_ready (rs := [8]) (by kernel_rfl) (by simp) (AllReady.cons rfl (fun K hK => ?_) AllReady.nil)
          refine step_appendC (.tmp 30) (.tmp 32) u2.heap.size u2.heap.size n (.slice a6 n c6) ⟨g, off + 1, none⟩ (n - 1) (ct - 1) NW rfl rfl rfl rfl HV3.out HNL.out HN3.out HNO.out (by omega) (by omega) S3.out ?_
          intro a9 c9 u4 hg hb
          refine hK _ _ ?_
          clear hK K
          have F := Lib.hid (HEND.out u2 u4 a6 c6 a9 c9 LG2.out B2.out (B3.out.trans hb) hg)
          clear hg hb HV3 B3 S3 HN3 B2 LG2
          refine wpAny_take (i := 9) (v := ?v11) rfl (by kernel_rfl) (by kernel_rfl) (by kernel_rfl) (fun _ _ _ h => h) (Or.inl ⟨by kernel_rfl, ?h11⟩) ?_
          case h11 => intro w; go_simp; try with_reducible rfl
          go_simp
          refine wpAny_done (by kernel_rfl) ?_ _
          obtain ⟨g9, b6, rfl, rfl, hg0, hd0, hf0, hfin, hbe⟩ := F.out
          have HFIN := Lib.hid hfin
          have HBE := Lib.hid hbe
          clear hfin hbe F
          go_wp2_with fail
          generalize u4.setCell ⟨b6, 0, none⟩ (.int .i64 5) = u5 at *
          refine HFIN.out.mono ?_
          rintro e u6 ⟨rfl, rfl⟩
          go_wp2
          go_ret
          exact ⟨rfl, HBE.out⟩
        · skip
          go_simp
          refine hK _ _ ?_
          clear hK K
          refine wpAny_ready (rs := [0]) (by kernel_rfl) (by simp) (AllReady.cons rfl (fun K hK => ?_) AllReady.nil)
          go_simp
          refine hK _ _ ?_
          clear hK K
          clear hcl hcl1
          generalize u0.alloc (.cells #[] 3) = u1 at *
          refine wpAny_ready (rs := [4]) (by kernel_rfl) (by simp) (AllReady.cons rfl (fun K hK => ?_) AllReady.nil)
          refine step_app0C (.tmp 25) (.tmp 28) u0.heap.size u0.heap.size ad n cp u0.heap.size (rwI R 0) rfl rfl rfl rfl LG1.out X1.out HL0.out (by omega) S1.out HAD.out ?_
          intro a6 c6 u2 hg hb
          refine hK _ _ ?_
          clear hK K
          have LG2 := Lib.hid hg
          have B2 := Lib.hid (B1.out.trans hb)
          clear hg hb
          refine wpAny_ready (rs := [5]) (by kernel_rfl) (by simp) (AllReady.cons rfl (fun K hK => ?_) AllReady.nil)
          go_simp
          refine hK _ _ ?_
          clear hK K
          have HV3 := Lib.hid (growV_oneC u2 a6 n c6)
          have B3 := Lib.hid (alloc_belowX u2 (.cells #[.slice a6 n c6] 27))
          have S3 := Lib.hid (show u2.heap.size ≤ (u2.alloc (.cells #[.slice a6 n c6] 27)).heap.size by simp)
          have HN3 := Lib.hid (HNW.out _ (B2.out.trans (B3.out.mono B2.out.size)))
          generalize u2.alloc (.cells #[.slice a6 n c6] 27) = u3 at *
          refine wpAny_ready (rs := [8]) (by kernel_rfl) (by simp) (AllReady.cons rfl (fun K hK => ?_) AllReady.nil)
          refine step_appendC (.tmp 30) (.tmp 32) u2.heap.size u2.heap.size n (.slice a6 n c6) ⟨g, off + 1, none⟩ (n - 1) (ct - 1) NW rfl rfl rfl rfl HV3.out HNL.out HN3.out HNO.out (by omega) (by omega) S3.out ?_
          intro a9 c9 u4 hg hb
          refine hK _ _ ?_
          clear hK K
          have F := Lib.hid (HEND.out u2 u4 a6 c6 a9 c9 LG2.out B2.out (B3.out.trans hb) hg)
          clear hg hb HV3 B3 S3 HN3 B2 LG2
          refine wpAny_take (i := 9) (v := ?v12) rfl (by kernel_rfl) (by kernel_rfl) (by kernel_rfl) (fun _ _ _ h => h) (Or.inl ⟨by kernel_rfl, ?h12⟩) ?_
          case h12 => intro w; go_simp; try with_reducible rfl
          go_simp
          refine wpAny_done (by kernel_rfl) ?_ _
          obtain ⟨g9, b6, rfl, rfl, hg0, hd0, hf0, hfin, hbe⟩ := F.out
          have HFIN := Lib.hid hfin
          have HBE := Lib.hid hbe
          clear hfin hbe F
          go_wp2_with fail
          generalize u4.setCell ⟨b6, 0, none⟩ (.int .i64 5) = u5 at *
          refine HFIN.out.mono ?_
          rintro e u6 ⟨rfl, rfl⟩
          go_wp2
          go_ret
          exact ⟨rfl, HBE.out⟩
          -- end of region 9 more
  · have hl' : (1048576 : Int) < (ds.length : Int) := by omega
    go_enter Try.func3, Try.ntmps3
    go_wp2
    go_ret
    exact ⟨rfl, Below.refl _ _⟩
end Go.Proofs.Ytnmhiagnmfpipaa
