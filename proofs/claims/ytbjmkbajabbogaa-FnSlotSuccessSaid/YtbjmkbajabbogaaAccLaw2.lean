/-
  The law of SlotSuccess (P81), walked: it returns true for every code, and writes into nothing that was there. No condition.
-/
import Derived.Test.YtbjmkbajabbogaaAcc2
import Derived.Test.YtbjmkbajabbogaaAccDraw2
import Derived.Test.YtbjmkbajabbogaaAccLaw1
namespace Go.Proofs.Ytbjmkbajabbogaa
open Go.RowKit

theorem run_app0 (w : World) (ty : TypeId) (base z : Nat) (src : Option Addr) (m c B : Nat) (xs : List Int) (hg : Grow .i64 3 w base (some ⟨z, 0, none⟩) 0 0 []) (hy : Ints .i64 w B src xs) (hm : xs.length = m) (hn : m < 1099511627775) (hb : base ≤ w.heap.size) (hs : ∃ ad, src = some ad) :
    ∃ a' cap' w', (Builtin.append_ #[23, 23] ty #[.slice (some ⟨z, 0, none⟩) 0 0, .slice src m c]).run Try.prog w = .ok (.slice a' m cap') w' ∧ Grow .i64 3 w' base a' m cap' xs ∧ Below base w w' ∧ w.grownBy w' (some z) := by
  obtain ⟨ad, rfl⟩ := hs
  obtain ⟨i0, hi0, hz0, hz1, hz2⟩ := info_parts Try.infoInt
  obtain ⟨v', w', hr, h2, h3, h4⟩ := run_append_own (P := Try.prog) w base 23 ty 3 i0 (.int .i64 0) 1 8 Try.underlying23 hi0 hz0 hz1 hz2 rfl (by omega) _ 0 _ hg ad m c (xs.map (Value.int .i64)) (by simp [hm])
    (fun j u hj => by
      have hjl : j < xs.length := by have := (List.getElem?_eq_some_iff.1 hj).1; simpa using this
      obtain ⟨b, off, e, _, hc⟩ := hy.at_ hjl
      injection e with e
      subst e
      have hadd : (⟨b, off, none⟩ : Addr).add j = ⟨b, off + j, none⟩ := by unfold Addr.add; split <;> simp_all
      rw [hadd, hc]
      simp [hjl] at hj
      rw [← hj, el_lt hjl]) (ints_oneCell _ _) (by unfold maxLen; omega) (by omega) hb
  try rw [Nat.zero_add] at hr
  try rw [Nat.zero_add] at h2
  rcases h2.2 with ⟨e, h0⟩ | ⟨g, c', cur, e, _⟩
  · exact absurd (h4.1 e).1 (by simp)
  · subst e
    exact ⟨_, _, w', hr, by simpa [Grow] using h2, (Below.refl _ _).grown h3 hb hg.own, h3⟩
theorem run_app1 (w : World) (ty : TypeId) (base : Nat) (A : Option Addr) (n cap cb : Nat) (xs : List Int) (v : Int) (hg : Grow .i64 3 w base A n cap xs) (hc : w.cell? ⟨cb, 0, none⟩ = some (.int .i64 v)) (hn : n < 1099511627775) (hb : base ≤ w.heap.size) :
    ∃ a' cap' w', (Builtin.append_ #[23, 23] ty #[.slice A n cap, .slice (some ⟨cb, 0, none⟩) 1 1]).run Try.prog w = .ok (.slice a' (n + 1) cap') w' ∧ Grow .i64 3 w' base a' (n + 1) cap' (xs ++ [v]) ∧ Below base w w' := by
  obtain ⟨i0, hi0, hz0, hz1, hz2⟩ := info_parts Try.infoInt
  obtain ⟨v', w', hr, h2, h3, _⟩ := run_append_own (P := Try.prog) w base 23 ty 3 i0 (.int .i64 0) 1 8 Try.underlying23 hi0 hz0 hz1 hz2 rfl (by omega) _ n _ hg ⟨cb, 0, none⟩ 1 1 [.int .i64 v] rfl
    (fun j u hj => by
      match j, hj with
      | 0, hj => simp at hj; subst hj; simpa [Addr.add] using hc) (by simp [Value.oneCell']) (by unfold maxLen; omega) (by omega) hb
  obtain ⟨a', cap', rfl, hgr, hbl⟩ := grow_of_own hg hb h2 h3
  exact ⟨a', cap', w', hr, hgr, hbl⟩
section
variable {w : World} {ops : Array Oper} {o : Oper} {a : Act} {Q : Exit → Act → World → Prop}
theorem step_app0 {K : Act → World → Prop} {E : Prop} (s x : Operand) (base z : Nat) (src : Option Addr) (m c B : Nat) (xs : List Int)
    (hgd : o.guard = none) (ho : o.op = .call { callee := .builtin .append, args := #[s, x], argTypes := #[23, 23] }) (hs : a.eval s = .slice (some ⟨z, 0, none⟩) 0 0) (hx : a.eval x = .slice src m c)
    (hg : Grow .i64 3 w base (some ⟨z, 0, none⟩) 0 0 []) (hy : Ints .i64 w B src xs) (hm : xs.length = m) (hn : m < 1099511627775) (hb : base ≤ w.heap.size) (he : ∃ ad, src = some ad)
    (h : ∀ a' cap' w', Grow .i64 3 w' base a' m cap' xs → Below base w w' → w.grownBy w' (some z) → K (a.put o.dst (.slice a' m cap')) w') : if Region.wanted o (yielded ops a.tmps) = true then Oper.wp Try.prog o a w K Q else E := by
  rw [if_pos (by simp [Region.wanted, hgd])]
  obtain ⟨a', cap', w', hr, h1, h2, h3⟩ := run_app0 w o.type base z src m c B xs hg hy hm hn hb he
  exact Lib.wp_append_run w s x _ _ ho _ _ hs hx _ _ hr (h a' cap' w' h1 h2 h3)
theorem step_app1 {K : Act → World → Prop} {E : Prop} (s x : Operand) (base : Nat) (A : Option Addr) (n cap cb : Nat) (xs : List Int) (v : Int)
    (hgd : o.guard = none) (ho : o.op = .call { callee := .builtin .append, args := #[s, x], argTypes := #[23, 23] }) (hs : a.eval s = .slice A n cap) (hx : a.eval x = .slice (some ⟨cb, 0, none⟩) 1 1)
    (hg : Grow .i64 3 w base A n cap xs) (hc : w.cell? ⟨cb, 0, none⟩ = some (.int .i64 v)) (hn : n < 1099511627775) (hb : base ≤ w.heap.size)
    (h : ∀ a' cap' w', Grow .i64 3 w' base a' (n + 1) cap' (xs ++ [v]) → Below base w w' → K (a.put o.dst (.slice a' (n + 1) cap')) w') : if Region.wanted o (yielded ops a.tmps) = true then Oper.wp Try.prog o a w K Q else E := by
  rw [if_pos (by simp [Region.wanted, hgd])]
  obtain ⟨a', cap', w', hr, h1, h2⟩ := run_app1 w o.type base A n cap cb xs v hg hc hn hb
  exact Lib.wp_append_run w s x _ _ ho _ _ hs hx _ _ hr (h a' cap' w' h1 h2)
end
theorem ssOr_case {xs : List Int} (h : 0 < (ssOr xs).length) : ssOk xs = true ∧ ssOr xs = ssN xs xs.length xs.length := by
  cases hk : ssOk xs
  · rw [ssOr_no hk] at h; simp at h
  · exact ⟨rfl, ssOr_yes hk⟩
theorem ssOr_el {xs : List Int} {k : Nat} (hk : k < (ssOr xs).length) : ∃ j : Nat, el (ssOr xs) k = j ∧ j < xs.length ∧ aloneN xs j xs.length = true := by
  obtain ⟨h1, h2⟩ := ssOr_case (xs := xs) (by omega)
  have hm : el (ssOr xs) k ∈ ssN xs xs.length xs.length := by
    rw [← h2, show el (ssOr xs) k = (ssOr xs)[k] by simp [el, hk]]
    exact List.getElem_mem hk
  obtain ⟨j, e, hj, ha⟩ := ssN_mem hm
  exact ⟨j, e, hj, ha⟩
theorem ss_more8 {xs : List Int} {a : Nat} (h : 0 < (ssOr xs).length) (ha : aloneN xs a xs.length = true) (hal : a < xs.length) (h8 : ¬ xs.length = 8) : (ssOr (xs ++ [el xs a])).length + 1 = (ssOr xs).length := by
  obtain ⟨h1, h2⟩ := ssOr_case h
  have hv := (svOk_iff 399 xs).1 (by rw [svOk_ss]; exact h1)
  have h3 : ssOk (xs ++ [el xs a]) = true := by
    rw [← svOk_ss, svOk_iff]
    refine ⟨by rw [List.length_append]; simp only [List.length_singleton]; omega, fun i hi => ?_⟩
    rw [List.length_append, List.length_singleton] at hi
    by_cases e : i < xs.length
    · rw [show el (xs ++ [el xs a]) i = el xs i by simp [el, List.getElem?_append_left e]]; exact hv.2 i e
    · rw [show el (xs ++ [el xs a]) i = el xs a by simp [el, show i = xs.length by omega]]; exact hv.2 a hal
  rw [h2, ssOr_yes h3]
  exact ss_more ha hal
set_option maxRecDepth 100000 in
set_option maxHeartbeats 16000000 in
theorem walkSlotSuccess (a : Option Addr) (c : Nat) (ds : List Int) (w : World) (hx : Ints .u8 w w.heap.size a ds) (hw : ∀ n ∈ ds, (Lit.int .u8 n).wf = true) (hc : ds.length ≤ c) (hcm : c ≤ maxLen) :
    Calls Try.prog 3 #[.slice a ds.length c] w fun e w' => e = .returned (.bool true) ∧ Below w.heap.size w w' := by
  have hb := isByte_of_wf hw
  clear hw
  by_cases hl : ds.length ≤ 1048576
  · go_enter Try.func3, Try.ntmps3
    go_wp2_with fail
    refine (drawSlotSuccess_any a c ds w hx hb hc hcm).mono ?_
    rintro e w1 ⟨xs, ax, cx, rfl, ⟨hx9, _, _⟩, i1, bl⟩
    have X1 := Lib.hid i1
    have B1 := Lib.hid bl
    clear hx hb hc hcm i1 bl hl
    obtain ⟨S, hS⟩ : ∃ S, S = ssOr xs := ⟨_, rfl⟩
    have HS := Lib.hid hS
    have hSl : S.length ≤ 9 := by rw [hS]; exact Nat.le_trans ssOr_len hx9
    have z1 : decide (S = S) = true := by simp
    clear hS
    go_wp2_with fail
    refine (slotSuccess_any (some ax) cx xs w1 X1.out).mono ?_
    rw [← HS.out]
    rintro e w2 ⟨g0, cg0, rfl, _, o2, b2⟩
    have G2 := Lib.hid (own_of_list o2).ints
    have X2 := Lib.hid (X1.out.next b2)
    have B2 := Lib.hid (Below.next B1.out (Nat.le_refl _) b2)
    clear o2 b2 X1 B1
    go_wp2_with fail
    refine (specSlotSuccess_any (some ax) cx xs w2 X2.out).mono ?_
    rw [← HS.out]
    rintro e w3 ⟨g3, cg3, rfl, _, o3, b3⟩
    have W3 := Lib.hid (own_of_list o3).ints
    have G3 := Lib.hid (G2.out.next b3)
    have X3 := Lib.hid (X2.out.next b3)
    have B3 := Lib.hid (Below.next B2.out (Nat.le_refl _) b3)
    clear o3 b3 G2 X2 B2
    go_wp2_with fail
    refine (sameInts_any g0 g3 cg0 cg3 w3.heap.size w3.heap.size S S w3 G3.out W3.out (by omega)).mono ?_
    rintro e w4 ⟨rfl, n4, rfl⟩
    have B4 := Lib.hid (below_drewN B3.out n4)
    have G4 := Lib.hid (G3.out.drewN n4)
    have X4 := Lib.hid (X3.out.drewN n4)
    clear B3 G3 X3 W3
    generalize hw4 : w3.drewN n4 = w4 at B4 ⊢
    have hs4 : w3.heap.size = w4.heap.size := by rw [← hw4]; rfl
    rw [hw4, hs4] at G4 X4
    clear hw4 hs4
    have HAL := Lib.hid (aliveA_from B4.out)
    by_cases h0 : S.length = 0
    · have z4 : ((S.length : Int) == 0) = true := by simp [h0]
      have h0' : (S.length : Int) = 0 := by omega
      go_wp2_with (go_at_call 16; (with_reducible refine HAL.out.mono ?_); rintro e w5 ⟨rfl, h5⟩)
      go_ret
      exact ⟨rfl, h5⟩
    · have z4 : ((S.length : Int) == 0) = false := by rw [beq_eq_false_iff_ne]; omega
      have h0' : ¬ (S.length : Int) = 0 := by omega
      have hne : S ≠ [] := fun e => h0 (by rw [e]; rfl)
      obtain ⟨bo, offo, eo, hbo, hco⟩ := G4.out hne
      subst eo
      have hSp : 0 < (ssOr xs).length := by rw [← HS.out]; omega
      have HEL := Lib.hid (fun k (hk : k < S.length) => show ∃ j : Nat, el S k = j ∧ j < xs.length ∧ aloneN xs j xs.length = true by have := hk; rw [HS.out] at this ⊢; exact ssOr_el this)
      have hxp : 0 < xs.length := by obtain ⟨j, _, h, _⟩ := HEL.out 0 (by omega); omega
      obtain ⟨bx, offx, ex, hbx, hcx⟩ := X4.out (by intro e; rw [e] at hxp; simp at hxp)
      injection ex with ex
      subst ex
      obtain ⟨k0, hk0, hk0l, hk0a⟩ := HEL.out 0 (by omega)
      obtain ⟨x0, hx0⟩ : ∃ x0, x0 = el xs k0 := ⟨_, rfl⟩
      have HMore := Lib.hid (fun h8 => show (ssOr (xs ++ [x0])).length + 1 = S.length by rw [hx0, HS.out]; exact ss_more8 hSp hk0a hk0l h8)
      have HCO := Lib.hid hco
      have HCX := Lib.hid hcx
      have hk0c := hco 0 (by omega)
      rw [hk0, Nat.add_zero] at hk0c
      have hx0c := hcx k0 hk0l
      rw [← hx0] at hx0c
      have hk0I : (k0 : Int) < (xs.length : Int) := by omega
      have hS0I : (0 : Int) < (S.length : Int) := by omega
      have HK0 := Lib.hid (And.intro hk0c hx0c)
      clear hco hcx hne hk0 hx0 hk0a hSp hk0c hx0c
      go_wp2
      go_loopw [5] (fun i wr => ∃ k m : Nat, k ≤ S.length ∧ i = .int .i64 k ∧ wr = w4.drewN m) (fun i _ => S.length - (intOf i).toNat)
      case atStart => exact ⟨0, 0, Nat.zero_le _, rfl, rfl⟩
      case round =>
        obtain ⟨k, m, hk, rfl, rfl⟩ := hrel
        by_cases hlt : k < S.length
        · obtain ⟨kk, e1, hkk, hal⟩ := HEL.out k hlt
          have HAl := Lib.hid ((aloneN_iff xs kk xs.length).1 hal)
          have hck := HCO.out k hlt
          rw [e1] at hck
          have hckk := HCX.out kk hkk
          have hlt' : (k : Int) < (S.length : Int) := by omega
          have hkk' : (kk : Int) < (xs.length : Int) := by omega
          clear e1 hal
          go_wp2
          go_loopw [6] (fun i wr => ∃ j p : Nat, j ≤ xs.length ∧ i = .int .i64 j ∧ wr = w4.drewN p) (fun i _ => xs.length - (intOf i).toNat)
          case atStart => exact ⟨0, m, Nat.zero_le _, rfl, rfl⟩
          case round =>
            obtain ⟨j, p, hj, rfl, rfl⟩ := hrel
            by_cases hlj : j < xs.length
            · have hcj := HCX.out j hlj
              have hlj' : (j : Int) < (xs.length : Int) := by omega
              by_cases hjk : j = kk
              · have z5 : ((j : Int) != (kk : Int)) = false := by simp [hjk]
                have hjk' : (j : Int) = (kk : Int) := by omega
                clear hjk
                go_wp2
                go_quiet (fail)
                go_wp2
                go_roundw
                case rel => exact ⟨j + 1, _, by omega, by go_num, rfl⟩
                case measure => simp [intOf]; omega
              · have z5 : ((j : Int) != (kk : Int)) = true := by simp; omega
                have hjk' : ¬ (j : Int) = (kk : Int) := by omega
                have hne := HAl.out j hlj hjk
                obtain ⟨y, hy⟩ : ∃ y, y = el xs j := ⟨_, rfl⟩
                obtain ⟨z, hz⟩ : ∃ z, z = el xs kk := ⟨_, rfl⟩
                rw [← hy, ← hz] at hne
                rw [← hy] at hcj
                rw [← hz] at hckk
                have z6 : (y == z) = false := by simp [hne]
                clear hy hz hjk
                go_wp2
                go_quiet (fail)
                go_wp2
                go_roundw
                case rel => exact ⟨j + 1, _, by omega, by go_num, rfl⟩
                case measure => simp [intOf]; omega
            · obtain rfl : xs.length = j := by omega
              go_wp2
              go_roundw
              case rel => exact ⟨k + 1, p, by omega, by go_num, rfl⟩
              case measure => simp [intOf]; omega
        · obtain rfl : S.length = k := by omega
          have HX : Hid (Ints .i64 (w4.drewN m).drew (w4.drewN m).drew.heap.size (some ⟨bx, offx, none⟩) xs) := X4.out
          have BE0 : Hid (Below (w4.drewN m).drew.heap.size (w4.drewN m).drew (w4.drewN m).drew) := Below.refl _ _
          have CO : Hid ((w4.drewN m).drew.cell? ⟨bo, offo, none⟩ = some (.int .i64 (k0 : Int))) := HK0.out.1
          have CX : Hid ((w4.drewN m).drew.cell? ⟨bx, offx + k0, none⟩ = some (.int .i64 x0)) := HK0.out.2
          have HBO : Hid (bo < (w4.drewN m).drew.heap.size) := hbo
          have HBX : Hid (bx < (w4.drewN m).drew.heap.size) := hbx
          have B9 : Hid (Below w.heap.size w (w4.drewN m)) := below_drewN B4.out m
          have HSS := Lib.hid (fun a c w h => by have := slotSuccess_any a c (xs ++ [x0]) w h; rw [List.length_append, List.length_singleton] at this; exact this)
          have hS0N : 0 < S.length := by omega
          have hk0N : k0 < xs.length := hk0l
          clear hlt hk z4 h0' hbo hbx HAL X4 G4 B4
          go_wp2_with fail
          refine wp_region_any (by kernel_rfl) ?_
          change wpAny _ _ _ _ _ _ _ (World.drew _)
          have B0 : Hid (Below w.heap.size w (w4.drewN m).drew) := below_drewN B9.out 1
          clear B9 HK0
          generalize (w4.drewN m).drew = u0 at HX BE0 CO CX HBO HBX B0 ⊢
          refine wpAny_take (i := 1) (v := ?v1) rfl (by kernel_rfl) (by kernel_rfl) (by kernel_rfl) (fun _ _ _ h => h) (Or.inl ⟨by kernel_rfl, ?h1⟩) ?_
          case h1 => intro w; go_simp; try with_reducible rfl
          go_simp
          refine wpAny_take (i := 3) (v := ?v2) rfl (by kernel_rfl) (by kernel_rfl) (by kernel_rfl) (fun _ _ _ h => h) (Or.inl ⟨by kernel_rfl, ?h2⟩) ?_
          case h2 => intro w; go_simp; try with_reducible rfl
          go_simp
          refine wpAny_take (i := 4) (v := ?v3) rfl (by kernel_rfl) (by kernel_rfl) (by kernel_rfl) (fun _ _ _ h => h) (Or.inl ⟨by kernel_rfl, ?h3⟩) ?_
          case h3 => intro w; go_simp; try with_reducible rfl
          go_simp
          refine wpAny_take (i := 5) (v := ?v4) rfl (by kernel_rfl) (by kernel_rfl) (by kernel_rfl) (fun _ _ _ h => h) (Or.inl ⟨by kernel_rfl, ?h4⟩) ?_
          case h4 => intro w; go_simp; try with_reducible rfl
          go_simp
          refine wpAny_ready (rs := [0, 6]) (by kernel_rfl) (by simp) (AllReady.cons rfl (fun K hK => ?_) (AllReady.cons rfl (fun K hK => ?_) AllReady.nil))
          · skip
            go_simp
            refine hK _ _ ?_
            clear hK K
            have BE5 := Lib.hid (BE0.out.alloc BE0.out.size (.cells #[] 3))
            have LG5 := Lib.hid (Grow.lit0 .i64 3 u0 u0.heap.size (Nat.le_refl _))
            obtain ⟨zb, hzb⟩ : ∃ zb, zb = u0.heap.size := ⟨_, rfl⟩
            have ZB := Lib.hid (show u0.heap.size ≤ zb by rw [hzb]; exact BE0.out.size)
            have ZS5 := Lib.hid (show zb < (u0.alloc (.cells #[] 3)).heap.size by rw [hzb]; simp)
            rw [← hzb] at LG5 ⊢
            clear hzb
            generalize u0.alloc (.cells #[] 3) = u5 at BE5 LG5 ZS5 ⊢
            refine wpAny_ready (rs := [2, 6]) (by kernel_rfl) (by simp) (AllReady.cons rfl (fun K hK => ?_) (AllReady.cons rfl (fun K hK => ?_) AllReady.nil))
            · skip
              refine step_app0 (.tmp 56) (.tmp 57) zb zb (some ⟨bx, offx, none⟩) xs.length cx u0.heap.size xs rfl rfl rfl rfl LG5.out (HX.out.below BE5.out) rfl (by omega) (by have := ZS5.out; omega) ⟨_, rfl⟩ ?_
              intro a6 c6 u6 hg hb hgb
              refine hK _ _ ?_
              clear hK K
              have BE6 := Lib.hid (BE5.out.trans (hb.mono ZB.out))
              have LG6 := Lib.hid hg
              have ZS6 := Lib.hid (Nat.lt_of_lt_of_le ZS5.out hb.size)
              clear hg hb hgb
              refine wpAny_ready (rs := [6]) (by kernel_rfl) (by simp) (AllReady.cons rfl (fun K hK => ?_) AllReady.nil)
              have hcl : u6.cell? ⟨bo, offo, none⟩ = some (.int .i64 (k0 : Int)) := (BE6.out.cell (p := ⟨bo, offo, none⟩) HBO.out).trans CO.out
              go_simp
              refine hK _ _ ?_
              clear hK K hcl
              refine wpAny_take (i := 7) (v := ?v8) rfl (by kernel_rfl) (by kernel_rfl) (by kernel_rfl) (fun _ _ _ h => h) (Or.inl ⟨by kernel_rfl, ?h8⟩) ?_
              case h8 => intro w; go_simp; try with_reducible rfl
              go_simp
              refine wpAny_ready (rs := [8]) (by kernel_rfl) (by simp) (AllReady.cons rfl (fun K hK => ?_) AllReady.nil)
              have hcl : u6.cell? ⟨bx, offx + k0, none⟩ = some (.int .i64 x0) := (BE6.out.cell (p := ⟨bx, offx + k0, none⟩) HBX.out).trans CX.out
              go_simp
              refine hK _ _ ?_
              clear hK K hcl
              refine wpAny_ready (rs := [9]) (by kernel_rfl) (by simp) (AllReady.cons rfl (fun K hK => ?_) AllReady.nil)
              go_simp
              refine hK _ _ ?_
              clear hK K
              have BE10 := Lib.hid (BE6.out.alloc BE6.out.size (.cells #[.int .i64 x0] 3))
              obtain ⟨cb, hcb⟩ : ∃ cb, cb = u6.heap.size := ⟨_, rfl⟩
              have CC10 := Lib.hid (show (u6.alloc (.cells #[.int .i64 x0] 3)).cell? ⟨cb, 0, none⟩ = some (.int .i64 x0) by rw [hcb]; simp)
              have CL10 := Lib.hid (show cb < (u6.alloc (.cells #[.int .i64 x0] 3)).heap.size by rw [hcb]; simp)
              have LG10 := Lib.hid (LG6.out.alloc (.cells #[.int .i64 x0] 3))
              have ZS10 := Lib.hid (show zb < (u6.alloc (.cells #[.int .i64 x0] 3)).heap.size by simp; exact Nat.lt_succ_of_lt ZS6.out)
              have CZ := Lib.hid (show ¬ cb = zb by rw [hcb]; have := ZS6.out; omega)
              rw [← hcb]
              clear hcb
              generalize u6.alloc (.cells #[.int .i64 x0] 3) = u10 at BE10 CC10 CL10 LG10 ZS10 ⊢
              refine wpAny_ready (rs := [10]) (by kernel_rfl) (by simp) (AllReady.cons rfl (fun K hK => ?_) AllReady.nil)
              refine step_app1 (.tmp 58) (.tmp 65) zb a6 xs.length c6 cb xs x0 rfl rfl rfl rfl LG10.out CC10.out (by omega) (by have := ZS10.out; omega) ?_
              intro a11 c11 u11 hg hb
              refine hK _ _ ?_
              clear hK K
              have BE11 := Lib.hid (BE10.out.trans (hb.mono ZB.out))
              have LG11 := Lib.hid hg.ints
              clear hg hb
              refine wpAny_ready (rs := [11]) (by kernel_rfl) (by simp) (AllReady.cons rfl (fun K hK => ?_) AllReady.nil)
              go_simp
              refine (HSS.out a11 c11 u11 LG11.out).mono ?_
              rintro e u12 ⟨am, cm, rfl, _, om, bm⟩
              have BE12 := Lib.hid (BE11.out.trans (bm.mono BE11.out.size))
              clear om bm
              go_simp
              refine hK _ _ ?_
              clear hK K
              refine wpAny_take (i := 12) (v := ?v13) rfl (by kernel_rfl) (by kernel_rfl) (by kernel_rfl) (fun _ _ _ h => h) (Or.inl ⟨by kernel_rfl, ?h13⟩) ?_
              case h13 => intro w; go_simp; try with_reducible rfl
              go_simp
              refine wpAny_done (by kernel_rfl) ?_ _
              go_simp
              by_cases h8 : xs.length = 8
              · have z8 : ((xs.length : Int) == 8) = true := by simp [h8]
                have h8' : (xs.length : Int) = 8 := by omega
                go_wp2
                go_ret
                exact ⟨rfl, Below.next B0.out (Nat.le_refl _) BE12.out⟩
              · have z8 : ((xs.length : Int) == 8) = false := by simp; omega
                have h8' : ¬ (xs.length : Int) = 8 := by omega
                have hm := HMore.out h8
                have hmI : ((ssOr (xs ++ [x0])).length : Int) = (S.length : Int) - 1 := by omega
                have z9 : (((ssOr (xs ++ [x0])).length : Int) == (S.length : Int) - 1) = true := by simp [hmI]
                have q1 := wrapW (n := (S.length : Int) - 1) (by omega)
                have q1' := wrapW' (n := (S.length : Int) - 1) (by omega)
                go_wp2
                go_ret
                exact ⟨ret_bool (by simp), Below.next B0.out (Nat.le_refl _) BE12.out⟩
            · skip
              have hcl : u5.cell? ⟨bo, offo, none⟩ = some (.int .i64 (k0 : Int)) := (BE5.out.cell (p := ⟨bo, offo, none⟩) HBO.out).trans CO.out
              go_simp
              refine hK _ _ ?_
              clear hK K hcl
              refine wpAny_take (i := 7) (v := ?v15) rfl (by kernel_rfl) (by kernel_rfl) (by kernel_rfl) (fun _ _ _ h => h) (Or.inl ⟨by kernel_rfl, ?h15⟩) ?_
              case h15 => intro w; go_simp; try with_reducible rfl
              go_simp
              refine wpAny_ready (rs := [2, 8]) (by kernel_rfl) (by simp) (AllReady.cons rfl (fun K hK => ?_) (AllReady.cons rfl (fun K hK => ?_) AllReady.nil))
              · skip
                refine step_app0 (.tmp 56) (.tmp 57) zb zb (some ⟨bx, offx, none⟩) xs.length cx u0.heap.size xs rfl rfl rfl rfl LG5.out (HX.out.below BE5.out) rfl (by omega) (by have := ZS5.out; omega) ⟨_, rfl⟩ ?_
                intro a16 c16 u16 hg hb hgb
                refine hK _ _ ?_
                clear hK K
                have BE16 := Lib.hid (BE5.out.trans (hb.mono ZB.out))
                have LG16 := Lib.hid hg
                have ZS16 := Lib.hid (Nat.lt_of_lt_of_le ZS5.out hb.size)
                clear hg hb hgb
                refine wpAny_ready (rs := [8]) (by kernel_rfl) (by simp) (AllReady.cons rfl (fun K hK => ?_) AllReady.nil)
                have hcl : u16.cell? ⟨bx, offx + k0, none⟩ = some (.int .i64 x0) := (BE16.out.cell (p := ⟨bx, offx + k0, none⟩) HBX.out).trans CX.out
                go_simp
                refine hK _ _ ?_
                clear hK K hcl
                refine wpAny_ready (rs := [9]) (by kernel_rfl) (by simp) (AllReady.cons rfl (fun K hK => ?_) AllReady.nil)
                go_simp
                refine hK _ _ ?_
                clear hK K
                have BE18 := Lib.hid (BE16.out.alloc BE16.out.size (.cells #[.int .i64 x0] 3))
                obtain ⟨cb, hcb⟩ : ∃ cb, cb = u16.heap.size := ⟨_, rfl⟩
                have CC18 := Lib.hid (show (u16.alloc (.cells #[.int .i64 x0] 3)).cell? ⟨cb, 0, none⟩ = some (.int .i64 x0) by rw [hcb]; simp)
                have CL18 := Lib.hid (show cb < (u16.alloc (.cells #[.int .i64 x0] 3)).heap.size by rw [hcb]; simp)
                have LG18 := Lib.hid (LG16.out.alloc (.cells #[.int .i64 x0] 3))
                have ZS18 := Lib.hid (show zb < (u16.alloc (.cells #[.int .i64 x0] 3)).heap.size by simp; exact Nat.lt_succ_of_lt ZS16.out)
                have CZ := Lib.hid (show ¬ cb = zb by rw [hcb]; have := ZS16.out; omega)
                rw [← hcb]
                clear hcb
                generalize u16.alloc (.cells #[.int .i64 x0] 3) = u18 at BE18 CC18 CL18 LG18 ZS18 ⊢
                refine wpAny_ready (rs := [10]) (by kernel_rfl) (by simp) (AllReady.cons rfl (fun K hK => ?_) AllReady.nil)
                refine step_app1 (.tmp 58) (.tmp 65) zb a16 xs.length c16 cb xs x0 rfl rfl rfl rfl LG18.out CC18.out (by omega) (by have := ZS18.out; omega) ?_
                intro a19 c19 u19 hg hb
                refine hK _ _ ?_
                clear hK K
                have BE19 := Lib.hid (BE18.out.trans (hb.mono ZB.out))
                have LG19 := Lib.hid hg.ints
                clear hg hb
                refine wpAny_ready (rs := [11]) (by kernel_rfl) (by simp) (AllReady.cons rfl (fun K hK => ?_) AllReady.nil)
                go_simp
                refine (HSS.out a19 c19 u19 LG19.out).mono ?_
                rintro e u20 ⟨am, cm, rfl, _, om, bm⟩
                have BE20 := Lib.hid (BE19.out.trans (bm.mono BE19.out.size))
                clear om bm
                go_simp
                refine hK _ _ ?_
                clear hK K
                refine wpAny_take (i := 12) (v := ?v21) rfl (by kernel_rfl) (by kernel_rfl) (by kernel_rfl) (fun _ _ _ h => h) (Or.inl ⟨by kernel_rfl, ?h21⟩) ?_
                case h21 => intro w; go_simp; try with_reducible rfl
                go_simp
                refine wpAny_done (by kernel_rfl) ?_ _
                go_simp
                by_cases h8 : xs.length = 8
                · have z8 : ((xs.length : Int) == 8) = true := by simp [h8]
                  have h8' : (xs.length : Int) = 8 := by omega
                  go_wp2
                  go_ret
                  exact ⟨rfl, Below.next B0.out (Nat.le_refl _) BE20.out⟩
                · have z8 : ((xs.length : Int) == 8) = false := by simp; omega
                  have h8' : ¬ (xs.length : Int) = 8 := by omega
                  have hm := HMore.out h8
                  have hmI : ((ssOr (xs ++ [x0])).length : Int) = (S.length : Int) - 1 := by omega
                  have z9 : (((ssOr (xs ++ [x0])).length : Int) == (S.length : Int) - 1) = true := by simp [hmI]
                  have q1 := wrapW (n := (S.length : Int) - 1) (by omega)
                  have q1' := wrapW' (n := (S.length : Int) - 1) (by omega)
                  go_wp2
                  go_ret
                  exact ⟨ret_bool (by simp), Below.next B0.out (Nat.le_refl _) BE20.out⟩
              · skip
                have hcl : u5.cell? ⟨bx, offx + k0, none⟩ = some (.int .i64 x0) := (BE5.out.cell (p := ⟨bx, offx + k0, none⟩) HBX.out).trans CX.out
                go_simp
                refine hK _ _ ?_
                clear hK K hcl
                refine wpAny_ready (rs := [2, 9]) (by kernel_rfl) (by simp) (AllReady.cons rfl (fun K hK => ?_) (AllReady.cons rfl (fun K hK => ?_) AllReady.nil))
                · skip
                  refine step_app0 (.tmp 56) (.tmp 57) zb zb (some ⟨bx, offx, none⟩) xs.length cx u0.heap.size xs rfl rfl rfl rfl LG5.out (HX.out.below BE5.out) rfl (by omega) (by have := ZS5.out; omega) ⟨_, rfl⟩ ?_
                  intro a23 c23 u23 hg hb hgb
                  refine hK _ _ ?_
                  clear hK K
                  have BE23 := Lib.hid (BE5.out.trans (hb.mono ZB.out))
                  have LG23 := Lib.hid hg
                  have ZS23 := Lib.hid (Nat.lt_of_lt_of_le ZS5.out hb.size)
                  clear hg hb hgb
                  refine wpAny_ready (rs := [9]) (by kernel_rfl) (by simp) (AllReady.cons rfl (fun K hK => ?_) AllReady.nil)
                  go_simp
                  refine hK _ _ ?_
                  clear hK K
                  have BE24 := Lib.hid (BE23.out.alloc BE23.out.size (.cells #[.int .i64 x0] 3))
                  obtain ⟨cb, hcb⟩ : ∃ cb, cb = u23.heap.size := ⟨_, rfl⟩
                  have CC24 := Lib.hid (show (u23.alloc (.cells #[.int .i64 x0] 3)).cell? ⟨cb, 0, none⟩ = some (.int .i64 x0) by rw [hcb]; simp)
                  have CL24 := Lib.hid (show cb < (u23.alloc (.cells #[.int .i64 x0] 3)).heap.size by rw [hcb]; simp)
                  have LG24 := Lib.hid (LG23.out.alloc (.cells #[.int .i64 x0] 3))
                  have ZS24 := Lib.hid (show zb < (u23.alloc (.cells #[.int .i64 x0] 3)).heap.size by simp; exact Nat.lt_succ_of_lt ZS23.out)
                  have CZ := Lib.hid (show ¬ cb = zb by rw [hcb]; have := ZS23.out; omega)
                  rw [← hcb]
                  clear hcb
                  generalize u23.alloc (.cells #[.int .i64 x0] 3) = u24 at BE24 CC24 CL24 LG24 ZS24 ⊢
                  refine wpAny_ready (rs := [10]) (by kernel_rfl) (by simp) (AllReady.cons rfl (fun K hK => ?_) AllReady.nil)
                  refine step_app1 (.tmp 58) (.tmp 65) zb a23 xs.length c23 cb xs x0 rfl rfl rfl rfl LG24.out CC24.out (by omega) (by have := ZS24.out; omega) ?_
                  intro a25 c25 u25 hg hb
                  refine hK _ _ ?_
                  clear hK K
                  have BE25 := Lib.hid (BE24.out.trans (hb.mono ZB.out))
                  have LG25 := Lib.hid hg.ints
                  clear hg hb
                  refine wpAny_ready (rs := [11]) (by kernel_rfl) (by simp) (AllReady.cons rfl (fun K hK => ?_) AllReady.nil)
                  go_simp
                  refine (HSS.out a25 c25 u25 LG25.out).mono ?_
                  rintro e u26 ⟨am, cm, rfl, _, om, bm⟩
                  have BE26 := Lib.hid (BE25.out.trans (bm.mono BE25.out.size))
                  clear om bm
                  go_simp
                  refine hK _ _ ?_
                  clear hK K
                  refine wpAny_take (i := 12) (v := ?v27) rfl (by kernel_rfl) (by kernel_rfl) (by kernel_rfl) (fun _ _ _ h => h) (Or.inl ⟨by kernel_rfl, ?h27⟩) ?_
                  case h27 => intro w; go_simp; try with_reducible rfl
                  go_simp
                  refine wpAny_done (by kernel_rfl) ?_ _
                  go_simp
                  by_cases h8 : xs.length = 8
                  · have z8 : ((xs.length : Int) == 8) = true := by simp [h8]
                    have h8' : (xs.length : Int) = 8 := by omega
                    go_wp2
                    go_ret
                    exact ⟨rfl, Below.next B0.out (Nat.le_refl _) BE26.out⟩
                  · have z8 : ((xs.length : Int) == 8) = false := by simp; omega
                    have h8' : ¬ (xs.length : Int) = 8 := by omega
                    have hm := HMore.out h8
                    have hmI : ((ssOr (xs ++ [x0])).length : Int) = (S.length : Int) - 1 := by omega
                    have z9 : (((ssOr (xs ++ [x0])).length : Int) == (S.length : Int) - 1) = true := by simp [hmI]
                    have q1 := wrapW (n := (S.length : Int) - 1) (by omega)
                    have q1' := wrapW' (n := (S.length : Int) - 1) (by omega)
                    go_wp2
                    go_ret
                    exact ⟨ret_bool (by simp), Below.next B0.out (Nat.le_refl _) BE26.out⟩
                · skip
                  go_simp
                  refine hK _ _ ?_
                  clear hK K
                  have BE28 := Lib.hid (BE5.out.alloc BE5.out.size (.cells #[.int .i64 x0] 3))
                  obtain ⟨cb, hcb⟩ : ∃ cb, cb = u5.heap.size := ⟨_, rfl⟩
                  have CC28 := Lib.hid (show (u5.alloc (.cells #[.int .i64 x0] 3)).cell? ⟨cb, 0, none⟩ = some (.int .i64 x0) by rw [hcb]; simp)
                  have CL28 := Lib.hid (show cb < (u5.alloc (.cells #[.int .i64 x0] 3)).heap.size by rw [hcb]; simp)
                  have LG28 := Lib.hid (LG5.out.alloc (.cells #[.int .i64 x0] 3))
                  have ZS28 := Lib.hid (show zb < (u5.alloc (.cells #[.int .i64 x0] 3)).heap.size by simp; exact Nat.lt_succ_of_lt ZS5.out)
                  have CZ := Lib.hid (show ¬ cb = zb by rw [hcb]; have := ZS5.out; omega)
                  rw [← hcb]
                  clear hcb
                  generalize u5.alloc (.cells #[.int .i64 x0] 3) = u28 at BE28 CC28 CL28 LG28 ZS28 ⊢
                  refine wpAny_ready (rs := [2]) (by kernel_rfl) (by simp) (AllReady.cons rfl (fun K hK => ?_) AllReady.nil)
                  refine step_app0 (.tmp 56) (.tmp 57) zb zb (some ⟨bx, offx, none⟩) xs.length cx u0.heap.size xs rfl rfl rfl rfl LG28.out (HX.out.below BE28.out) rfl (by omega) (by have := ZS28.out; omega) ⟨_, rfl⟩ ?_
                  intro a29 c29 u29 hg hb hgb
                  refine hK _ _ ?_
                  clear hK K
                  have BE29 := Lib.hid (BE28.out.trans (hb.mono ZB.out))
                  have LG29 := Lib.hid hg
                  have ZS29 := Lib.hid (Nat.lt_of_lt_of_le ZS28.out hb.size)
                  have CC29 := Lib.hid ((World.cell?_of_block (a := ⟨cb, 0, none⟩) (hgb.block cb CL28.out (fun e => by injection e with e; have := CZ.out; omega))).trans CC28.out)
                  have CL29 := Lib.hid (Nat.lt_of_lt_of_le CL28.out hb.size)
                  clear hg hb hgb
                  refine wpAny_ready (rs := [10]) (by kernel_rfl) (by simp) (AllReady.cons rfl (fun K hK => ?_) AllReady.nil)
                  refine step_app1 (.tmp 58) (.tmp 65) zb a29 xs.length c29 cb xs x0 rfl rfl rfl rfl LG29.out CC29.out (by omega) (by have := ZS29.out; omega) ?_
                  intro a30 c30 u30 hg hb
                  refine hK _ _ ?_
                  clear hK K
                  have BE30 := Lib.hid (BE29.out.trans (hb.mono ZB.out))
                  have LG30 := Lib.hid hg.ints
                  clear hg hb
                  refine wpAny_ready (rs := [11]) (by kernel_rfl) (by simp) (AllReady.cons rfl (fun K hK => ?_) AllReady.nil)
                  go_simp
                  refine (HSS.out a30 c30 u30 LG30.out).mono ?_
                  rintro e u31 ⟨am, cm, rfl, _, om, bm⟩
                  have BE31 := Lib.hid (BE30.out.trans (bm.mono BE30.out.size))
                  clear om bm
                  go_simp
                  refine hK _ _ ?_
                  clear hK K
                  refine wpAny_take (i := 12) (v := ?v32) rfl (by kernel_rfl) (by kernel_rfl) (by kernel_rfl) (fun _ _ _ h => h) (Or.inl ⟨by kernel_rfl, ?h32⟩) ?_
                  case h32 => intro w; go_simp; try with_reducible rfl
                  go_simp
                  refine wpAny_done (by kernel_rfl) ?_ _
                  go_simp
                  by_cases h8 : xs.length = 8
                  · have z8 : ((xs.length : Int) == 8) = true := by simp [h8]
                    have h8' : (xs.length : Int) = 8 := by omega
                    go_wp2
                    go_ret
                    exact ⟨rfl, Below.next B0.out (Nat.le_refl _) BE31.out⟩
                  · have z8 : ((xs.length : Int) == 8) = false := by simp; omega
                    have h8' : ¬ (xs.length : Int) = 8 := by omega
                    have hm := HMore.out h8
                    have hmI : ((ssOr (xs ++ [x0])).length : Int) = (S.length : Int) - 1 := by omega
                    have z9 : (((ssOr (xs ++ [x0])).length : Int) == (S.length : Int) - 1) = true := by simp [hmI]
                    have q1 := wrapW (n := (S.length : Int) - 1) (by omega)
                    have q1' := wrapW' (n := (S.length : Int) - 1) (by omega)
                    go_wp2
                    go_ret
                    exact ⟨ret_bool (by simp), Below.next B0.out (Nat.le_refl _) BE31.out⟩
          · skip
            have hcl : u0.cell? ⟨bo, offo, none⟩ = some (.int .i64 (k0 : Int)) := (BE0.out.cell (p := ⟨bo, offo, none⟩) HBO.out).trans CO.out
            go_simp
            refine hK _ _ ?_
            clear hK K hcl
            refine wpAny_take (i := 7) (v := ?v34) rfl (by kernel_rfl) (by kernel_rfl) (by kernel_rfl) (fun _ _ _ h => h) (Or.inl ⟨by kernel_rfl, ?h34⟩) ?_
            case h34 => intro w; go_simp; try with_reducible rfl
            go_simp
            refine wpAny_ready (rs := [0, 8]) (by kernel_rfl) (by simp) (AllReady.cons rfl (fun K hK => ?_) (AllReady.cons rfl (fun K hK => ?_) AllReady.nil))
            · skip
              go_simp
              refine hK _ _ ?_
              clear hK K
              have BE35 := Lib.hid (BE0.out.alloc BE0.out.size (.cells #[] 3))
              have LG35 := Lib.hid (Grow.lit0 .i64 3 u0 u0.heap.size (Nat.le_refl _))
              obtain ⟨zb, hzb⟩ : ∃ zb, zb = u0.heap.size := ⟨_, rfl⟩
              have ZB := Lib.hid (show u0.heap.size ≤ zb by rw [hzb]; exact BE0.out.size)
              have ZS35 := Lib.hid (show zb < (u0.alloc (.cells #[] 3)).heap.size by rw [hzb]; simp)
              rw [← hzb] at LG35 ⊢
              clear hzb
              generalize u0.alloc (.cells #[] 3) = u35 at BE35 LG35 ZS35 ⊢
              refine wpAny_ready (rs := [2, 8]) (by kernel_rfl) (by simp) (AllReady.cons rfl (fun K hK => ?_) (AllReady.cons rfl (fun K hK => ?_) AllReady.nil))
              · skip
                refine step_app0 (.tmp 56) (.tmp 57) zb zb (some ⟨bx, offx, none⟩) xs.length cx u0.heap.size xs rfl rfl rfl rfl LG35.out (HX.out.below BE35.out) rfl (by omega) (by have := ZS35.out; omega) ⟨_, rfl⟩ ?_
                intro a36 c36 u36 hg hb hgb
                refine hK _ _ ?_
                clear hK K
                have BE36 := Lib.hid (BE35.out.trans (hb.mono ZB.out))
                have LG36 := Lib.hid hg
                have ZS36 := Lib.hid (Nat.lt_of_lt_of_le ZS35.out hb.size)
                clear hg hb hgb
                refine wpAny_ready (rs := [8]) (by kernel_rfl) (by simp) (AllReady.cons rfl (fun K hK => ?_) AllReady.nil)
                have hcl : u36.cell? ⟨bx, offx + k0, none⟩ = some (.int .i64 x0) := (BE36.out.cell (p := ⟨bx, offx + k0, none⟩) HBX.out).trans CX.out
                go_simp
                refine hK _ _ ?_
                clear hK K hcl
                refine wpAny_ready (rs := [9]) (by kernel_rfl) (by simp) (AllReady.cons rfl (fun K hK => ?_) AllReady.nil)
                go_simp
                refine hK _ _ ?_
                clear hK K
                have BE38 := Lib.hid (BE36.out.alloc BE36.out.size (.cells #[.int .i64 x0] 3))
                obtain ⟨cb, hcb⟩ : ∃ cb, cb = u36.heap.size := ⟨_, rfl⟩
                have CC38 := Lib.hid (show (u36.alloc (.cells #[.int .i64 x0] 3)).cell? ⟨cb, 0, none⟩ = some (.int .i64 x0) by rw [hcb]; simp)
                have CL38 := Lib.hid (show cb < (u36.alloc (.cells #[.int .i64 x0] 3)).heap.size by rw [hcb]; simp)
                have LG38 := Lib.hid (LG36.out.alloc (.cells #[.int .i64 x0] 3))
                have ZS38 := Lib.hid (show zb < (u36.alloc (.cells #[.int .i64 x0] 3)).heap.size by simp; exact Nat.lt_succ_of_lt ZS36.out)
                have CZ := Lib.hid (show ¬ cb = zb by rw [hcb]; have := ZS36.out; omega)
                rw [← hcb]
                clear hcb
                generalize u36.alloc (.cells #[.int .i64 x0] 3) = u38 at BE38 CC38 CL38 LG38 ZS38 ⊢
                refine wpAny_ready (rs := [10]) (by kernel_rfl) (by simp) (AllReady.cons rfl (fun K hK => ?_) AllReady.nil)
                refine step_app1 (.tmp 58) (.tmp 65) zb a36 xs.length c36 cb xs x0 rfl rfl rfl rfl LG38.out CC38.out (by omega) (by have := ZS38.out; omega) ?_
                intro a39 c39 u39 hg hb
                refine hK _ _ ?_
                clear hK K
                have BE39 := Lib.hid (BE38.out.trans (hb.mono ZB.out))
                have LG39 := Lib.hid hg.ints
                clear hg hb
                refine wpAny_ready (rs := [11]) (by kernel_rfl) (by simp) (AllReady.cons rfl (fun K hK => ?_) AllReady.nil)
                go_simp
                refine (HSS.out a39 c39 u39 LG39.out).mono ?_
                rintro e u40 ⟨am, cm, rfl, _, om, bm⟩
                have BE40 := Lib.hid (BE39.out.trans (bm.mono BE39.out.size))
                clear om bm
                go_simp
                refine hK _ _ ?_
                clear hK K
                refine wpAny_take (i := 12) (v := ?v41) rfl (by kernel_rfl) (by kernel_rfl) (by kernel_rfl) (fun _ _ _ h => h) (Or.inl ⟨by kernel_rfl, ?h41⟩) ?_
                case h41 => intro w; go_simp; try with_reducible rfl
                go_simp
                refine wpAny_done (by kernel_rfl) ?_ _
                go_simp
                by_cases h8 : xs.length = 8
                · have z8 : ((xs.length : Int) == 8) = true := by simp [h8]
                  have h8' : (xs.length : Int) = 8 := by omega
                  go_wp2
                  go_ret
                  exact ⟨rfl, Below.next B0.out (Nat.le_refl _) BE40.out⟩
                · have z8 : ((xs.length : Int) == 8) = false := by simp; omega
                  have h8' : ¬ (xs.length : Int) = 8 := by omega
                  have hm := HMore.out h8
                  have hmI : ((ssOr (xs ++ [x0])).length : Int) = (S.length : Int) - 1 := by omega
                  have z9 : (((ssOr (xs ++ [x0])).length : Int) == (S.length : Int) - 1) = true := by simp [hmI]
                  have q1 := wrapW (n := (S.length : Int) - 1) (by omega)
                  have q1' := wrapW' (n := (S.length : Int) - 1) (by omega)
                  go_wp2
                  go_ret
                  exact ⟨ret_bool (by simp), Below.next B0.out (Nat.le_refl _) BE40.out⟩
              · skip
                have hcl : u35.cell? ⟨bx, offx + k0, none⟩ = some (.int .i64 x0) := (BE35.out.cell (p := ⟨bx, offx + k0, none⟩) HBX.out).trans CX.out
                go_simp
                refine hK _ _ ?_
                clear hK K hcl
                refine wpAny_ready (rs := [2, 9]) (by kernel_rfl) (by simp) (AllReady.cons rfl (fun K hK => ?_) (AllReady.cons rfl (fun K hK => ?_) AllReady.nil))
                · skip
                  refine step_app0 (.tmp 56) (.tmp 57) zb zb (some ⟨bx, offx, none⟩) xs.length cx u0.heap.size xs rfl rfl rfl rfl LG35.out (HX.out.below BE35.out) rfl (by omega) (by have := ZS35.out; omega) ⟨_, rfl⟩ ?_
                  intro a43 c43 u43 hg hb hgb
                  refine hK _ _ ?_
                  clear hK K
                  have BE43 := Lib.hid (BE35.out.trans (hb.mono ZB.out))
                  have LG43 := Lib.hid hg
                  have ZS43 := Lib.hid (Nat.lt_of_lt_of_le ZS35.out hb.size)
                  clear hg hb hgb
                  refine wpAny_ready (rs := [9]) (by kernel_rfl) (by simp) (AllReady.cons rfl (fun K hK => ?_) AllReady.nil)
                  go_simp
                  refine hK _ _ ?_
                  clear hK K
                  have BE44 := Lib.hid (BE43.out.alloc BE43.out.size (.cells #[.int .i64 x0] 3))
                  obtain ⟨cb, hcb⟩ : ∃ cb, cb = u43.heap.size := ⟨_, rfl⟩
                  have CC44 := Lib.hid (show (u43.alloc (.cells #[.int .i64 x0] 3)).cell? ⟨cb, 0, none⟩ = some (.int .i64 x0) by rw [hcb]; simp)
                  have CL44 := Lib.hid (show cb < (u43.alloc (.cells #[.int .i64 x0] 3)).heap.size by rw [hcb]; simp)
                  have LG44 := Lib.hid (LG43.out.alloc (.cells #[.int .i64 x0] 3))
                  have ZS44 := Lib.hid (show zb < (u43.alloc (.cells #[.int .i64 x0] 3)).heap.size by simp; exact Nat.lt_succ_of_lt ZS43.out)
                  have CZ := Lib.hid (show ¬ cb = zb by rw [hcb]; have := ZS43.out; omega)
                  rw [← hcb]
                  clear hcb
                  generalize u43.alloc (.cells #[.int .i64 x0] 3) = u44 at BE44 CC44 CL44 LG44 ZS44 ⊢
                  refine wpAny_ready (rs := [10]) (by kernel_rfl) (by simp) (AllReady.cons rfl (fun K hK => ?_) AllReady.nil)
                  refine step_app1 (.tmp 58) (.tmp 65) zb a43 xs.length c43 cb xs x0 rfl rfl rfl rfl LG44.out CC44.out (by omega) (by have := ZS44.out; omega) ?_
                  intro a45 c45 u45 hg hb
                  refine hK _ _ ?_
                  clear hK K
                  have BE45 := Lib.hid (BE44.out.trans (hb.mono ZB.out))
                  have LG45 := Lib.hid hg.ints
                  clear hg hb
                  refine wpAny_ready (rs := [11]) (by kernel_rfl) (by simp) (AllReady.cons rfl (fun K hK => ?_) AllReady.nil)
                  go_simp
                  refine (HSS.out a45 c45 u45 LG45.out).mono ?_
                  rintro e u46 ⟨am, cm, rfl, _, om, bm⟩
                  have BE46 := Lib.hid (BE45.out.trans (bm.mono BE45.out.size))
                  clear om bm
                  go_simp
                  refine hK _ _ ?_
                  clear hK K
                  refine wpAny_take (i := 12) (v := ?v47) rfl (by kernel_rfl) (by kernel_rfl) (by kernel_rfl) (fun _ _ _ h => h) (Or.inl ⟨by kernel_rfl, ?h47⟩) ?_
                  case h47 => intro w; go_simp; try with_reducible rfl
                  go_simp
                  refine wpAny_done (by kernel_rfl) ?_ _
                  go_simp
                  by_cases h8 : xs.length = 8
                  · have z8 : ((xs.length : Int) == 8) = true := by simp [h8]
                    have h8' : (xs.length : Int) = 8 := by omega
                    go_wp2
                    go_ret
                    exact ⟨rfl, Below.next B0.out (Nat.le_refl _) BE46.out⟩
                  · have z8 : ((xs.length : Int) == 8) = false := by simp; omega
                    have h8' : ¬ (xs.length : Int) = 8 := by omega
                    have hm := HMore.out h8
                    have hmI : ((ssOr (xs ++ [x0])).length : Int) = (S.length : Int) - 1 := by omega
                    have z9 : (((ssOr (xs ++ [x0])).length : Int) == (S.length : Int) - 1) = true := by simp [hmI]
                    have q1 := wrapW (n := (S.length : Int) - 1) (by omega)
                    have q1' := wrapW' (n := (S.length : Int) - 1) (by omega)
                    go_wp2
                    go_ret
                    exact ⟨ret_bool (by simp), Below.next B0.out (Nat.le_refl _) BE46.out⟩
                · skip
                  go_simp
                  refine hK _ _ ?_
                  clear hK K
                  have BE48 := Lib.hid (BE35.out.alloc BE35.out.size (.cells #[.int .i64 x0] 3))
                  obtain ⟨cb, hcb⟩ : ∃ cb, cb = u35.heap.size := ⟨_, rfl⟩
                  have CC48 := Lib.hid (show (u35.alloc (.cells #[.int .i64 x0] 3)).cell? ⟨cb, 0, none⟩ = some (.int .i64 x0) by rw [hcb]; simp)
                  have CL48 := Lib.hid (show cb < (u35.alloc (.cells #[.int .i64 x0] 3)).heap.size by rw [hcb]; simp)
                  have LG48 := Lib.hid (LG35.out.alloc (.cells #[.int .i64 x0] 3))
                  have ZS48 := Lib.hid (show zb < (u35.alloc (.cells #[.int .i64 x0] 3)).heap.size by simp; exact Nat.lt_succ_of_lt ZS35.out)
                  have CZ := Lib.hid (show ¬ cb = zb by rw [hcb]; have := ZS35.out; omega)
                  rw [← hcb]
                  clear hcb
                  generalize u35.alloc (.cells #[.int .i64 x0] 3) = u48 at BE48 CC48 CL48 LG48 ZS48 ⊢
                  refine wpAny_ready (rs := [2]) (by kernel_rfl) (by simp) (AllReady.cons rfl (fun K hK => ?_) AllReady.nil)
                  refine step_app0 (.tmp 56) (.tmp 57) zb zb (some ⟨bx, offx, none⟩) xs.length cx u0.heap.size xs rfl rfl rfl rfl LG48.out (HX.out.below BE48.out) rfl (by omega) (by have := ZS48.out; omega) ⟨_, rfl⟩ ?_
                  intro a49 c49 u49 hg hb hgb
                  refine hK _ _ ?_
                  clear hK K
                  have BE49 := Lib.hid (BE48.out.trans (hb.mono ZB.out))
                  have LG49 := Lib.hid hg
                  have ZS49 := Lib.hid (Nat.lt_of_lt_of_le ZS48.out hb.size)
                  have CC49 := Lib.hid ((World.cell?_of_block (a := ⟨cb, 0, none⟩) (hgb.block cb CL48.out (fun e => by injection e with e; have := CZ.out; omega))).trans CC48.out)
                  have CL49 := Lib.hid (Nat.lt_of_lt_of_le CL48.out hb.size)
                  clear hg hb hgb
                  refine wpAny_ready (rs := [10]) (by kernel_rfl) (by simp) (AllReady.cons rfl (fun K hK => ?_) AllReady.nil)
                  refine step_app1 (.tmp 58) (.tmp 65) zb a49 xs.length c49 cb xs x0 rfl rfl rfl rfl LG49.out CC49.out (by omega) (by have := ZS49.out; omega) ?_
                  intro a50 c50 u50 hg hb
                  refine hK _ _ ?_
                  clear hK K
                  have BE50 := Lib.hid (BE49.out.trans (hb.mono ZB.out))
                  have LG50 := Lib.hid hg.ints
                  clear hg hb
                  refine wpAny_ready (rs := [11]) (by kernel_rfl) (by simp) (AllReady.cons rfl (fun K hK => ?_) AllReady.nil)
                  go_simp
                  refine (HSS.out a50 c50 u50 LG50.out).mono ?_
                  rintro e u51 ⟨am, cm, rfl, _, om, bm⟩
                  have BE51 := Lib.hid (BE50.out.trans (bm.mono BE50.out.size))
                  clear om bm
                  go_simp
                  refine hK _ _ ?_
                  clear hK K
                  refine wpAny_take (i := 12) (v := ?v52) rfl (by kernel_rfl) (by kernel_rfl) (by kernel_rfl) (fun _ _ _ h => h) (Or.inl ⟨by kernel_rfl, ?h52⟩) ?_
                  case h52 => intro w; go_simp; try with_reducible rfl
                  go_simp
                  refine wpAny_done (by kernel_rfl) ?_ _
                  go_simp
                  by_cases h8 : xs.length = 8
                  · have z8 : ((xs.length : Int) == 8) = true := by simp [h8]
                    have h8' : (xs.length : Int) = 8 := by omega
                    go_wp2
                    go_ret
                    exact ⟨rfl, Below.next B0.out (Nat.le_refl _) BE51.out⟩
                  · have z8 : ((xs.length : Int) == 8) = false := by simp; omega
                    have h8' : ¬ (xs.length : Int) = 8 := by omega
                    have hm := HMore.out h8
                    have hmI : ((ssOr (xs ++ [x0])).length : Int) = (S.length : Int) - 1 := by omega
                    have z9 : (((ssOr (xs ++ [x0])).length : Int) == (S.length : Int) - 1) = true := by simp [hmI]
                    have q1 := wrapW (n := (S.length : Int) - 1) (by omega)
                    have q1' := wrapW' (n := (S.length : Int) - 1) (by omega)
                    go_wp2
                    go_ret
                    exact ⟨ret_bool (by simp), Below.next B0.out (Nat.le_refl _) BE51.out⟩
            · skip
              have hcl : u0.cell? ⟨bx, offx + k0, none⟩ = some (.int .i64 x0) := (BE0.out.cell (p := ⟨bx, offx + k0, none⟩) HBX.out).trans CX.out
              go_simp
              refine hK _ _ ?_
              clear hK K hcl
              refine wpAny_ready (rs := [0, 9]) (by kernel_rfl) (by simp) (AllReady.cons rfl (fun K hK => ?_) (AllReady.cons rfl (fun K hK => ?_) AllReady.nil))
              · skip
                go_simp
                refine hK _ _ ?_
                clear hK K
                have BE54 := Lib.hid (BE0.out.alloc BE0.out.size (.cells #[] 3))
                have LG54 := Lib.hid (Grow.lit0 .i64 3 u0 u0.heap.size (Nat.le_refl _))
                obtain ⟨zb, hzb⟩ : ∃ zb, zb = u0.heap.size := ⟨_, rfl⟩
                have ZB := Lib.hid (show u0.heap.size ≤ zb by rw [hzb]; exact BE0.out.size)
                have ZS54 := Lib.hid (show zb < (u0.alloc (.cells #[] 3)).heap.size by rw [hzb]; simp)
                rw [← hzb] at LG54 ⊢
                clear hzb
                generalize u0.alloc (.cells #[] 3) = u54 at BE54 LG54 ZS54 ⊢
                refine wpAny_ready (rs := [2, 9]) (by kernel_rfl) (by simp) (AllReady.cons rfl (fun K hK => ?_) (AllReady.cons rfl (fun K hK => ?_) AllReady.nil))
                · skip
                  refine step_app0 (.tmp 56) (.tmp 57) zb zb (some ⟨bx, offx, none⟩) xs.length cx u0.heap.size xs rfl rfl rfl rfl LG54.out (HX.out.below BE54.out) rfl (by omega) (by have := ZS54.out; omega) ⟨_, rfl⟩ ?_
                  intro a55 c55 u55 hg hb hgb
                  refine hK _ _ ?_
                  clear hK K
                  have BE55 := Lib.hid (BE54.out.trans (hb.mono ZB.out))
                  have LG55 := Lib.hid hg
                  have ZS55 := Lib.hid (Nat.lt_of_lt_of_le ZS54.out hb.size)
                  clear hg hb hgb
                  refine wpAny_ready (rs := [9]) (by kernel_rfl) (by simp) (AllReady.cons rfl (fun K hK => ?_) AllReady.nil)
                  go_simp
                  refine hK _ _ ?_
                  clear hK K
                  have BE56 := Lib.hid (BE55.out.alloc BE55.out.size (.cells #[.int .i64 x0] 3))
                  obtain ⟨cb, hcb⟩ : ∃ cb, cb = u55.heap.size := ⟨_, rfl⟩
                  have CC56 := Lib.hid (show (u55.alloc (.cells #[.int .i64 x0] 3)).cell? ⟨cb, 0, none⟩ = some (.int .i64 x0) by rw [hcb]; simp)
                  have CL56 := Lib.hid (show cb < (u55.alloc (.cells #[.int .i64 x0] 3)).heap.size by rw [hcb]; simp)
                  have LG56 := Lib.hid (LG55.out.alloc (.cells #[.int .i64 x0] 3))
                  have ZS56 := Lib.hid (show zb < (u55.alloc (.cells #[.int .i64 x0] 3)).heap.size by simp; exact Nat.lt_succ_of_lt ZS55.out)
                  have CZ := Lib.hid (show ¬ cb = zb by rw [hcb]; have := ZS55.out; omega)
                  rw [← hcb]
                  clear hcb
                  generalize u55.alloc (.cells #[.int .i64 x0] 3) = u56 at BE56 CC56 CL56 LG56 ZS56 ⊢
                  refine wpAny_ready (rs := [10]) (by kernel_rfl) (by simp) (AllReady.cons rfl (fun K hK => ?_) AllReady.nil)
                  refine step_app1 (.tmp 58) (.tmp 65) zb a55 xs.length c55 cb xs x0 rfl rfl rfl rfl LG56.out CC56.out (by omega) (by have := ZS56.out; omega) ?_
                  intro a57 c57 u57 hg hb
                  refine hK _ _ ?_
                  clear hK K
                  have BE57 := Lib.hid (BE56.out.trans (hb.mono ZB.out))
                  have LG57 := Lib.hid hg.ints
                  clear hg hb
                  refine wpAny_ready (rs := [11]) (by kernel_rfl) (by simp) (AllReady.cons rfl (fun K hK => ?_) AllReady.nil)
                  go_simp
                  refine (HSS.out a57 c57 u57 LG57.out).mono ?_
                  rintro e u58 ⟨am, cm, rfl, _, om, bm⟩
                  have BE58 := Lib.hid (BE57.out.trans (bm.mono BE57.out.size))
                  clear om bm
                  go_simp
                  refine hK _ _ ?_
                  clear hK K
                  refine wpAny_take (i := 12) (v := ?v59) rfl (by kernel_rfl) (by kernel_rfl) (by kernel_rfl) (fun _ _ _ h => h) (Or.inl ⟨by kernel_rfl, ?h59⟩) ?_
                  case h59 => intro w; go_simp; try with_reducible rfl
                  go_simp
                  refine wpAny_done (by kernel_rfl) ?_ _
                  go_simp
                  by_cases h8 : xs.length = 8
                  · have z8 : ((xs.length : Int) == 8) = true := by simp [h8]
                    have h8' : (xs.length : Int) = 8 := by omega
                    go_wp2
                    go_ret
                    exact ⟨rfl, Below.next B0.out (Nat.le_refl _) BE58.out⟩
                  · have z8 : ((xs.length : Int) == 8) = false := by simp; omega
                    have h8' : ¬ (xs.length : Int) = 8 := by omega
                    have hm := HMore.out h8
                    have hmI : ((ssOr (xs ++ [x0])).length : Int) = (S.length : Int) - 1 := by omega
                    have z9 : (((ssOr (xs ++ [x0])).length : Int) == (S.length : Int) - 1) = true := by simp [hmI]
                    have q1 := wrapW (n := (S.length : Int) - 1) (by omega)
                    have q1' := wrapW' (n := (S.length : Int) - 1) (by omega)
                    go_wp2
                    go_ret
                    exact ⟨ret_bool (by simp), Below.next B0.out (Nat.le_refl _) BE58.out⟩
                · skip
                  go_simp
                  refine hK _ _ ?_
                  clear hK K
                  have BE60 := Lib.hid (BE54.out.alloc BE54.out.size (.cells #[.int .i64 x0] 3))
                  obtain ⟨cb, hcb⟩ : ∃ cb, cb = u54.heap.size := ⟨_, rfl⟩
                  have CC60 := Lib.hid (show (u54.alloc (.cells #[.int .i64 x0] 3)).cell? ⟨cb, 0, none⟩ = some (.int .i64 x0) by rw [hcb]; simp)
                  have CL60 := Lib.hid (show cb < (u54.alloc (.cells #[.int .i64 x0] 3)).heap.size by rw [hcb]; simp)
                  have LG60 := Lib.hid (LG54.out.alloc (.cells #[.int .i64 x0] 3))
                  have ZS60 := Lib.hid (show zb < (u54.alloc (.cells #[.int .i64 x0] 3)).heap.size by simp; exact Nat.lt_succ_of_lt ZS54.out)
                  have CZ := Lib.hid (show ¬ cb = zb by rw [hcb]; have := ZS54.out; omega)
                  rw [← hcb]
                  clear hcb
                  generalize u54.alloc (.cells #[.int .i64 x0] 3) = u60 at BE60 CC60 CL60 LG60 ZS60 ⊢
                  refine wpAny_ready (rs := [2]) (by kernel_rfl) (by simp) (AllReady.cons rfl (fun K hK => ?_) AllReady.nil)
                  refine step_app0 (.tmp 56) (.tmp 57) zb zb (some ⟨bx, offx, none⟩) xs.length cx u0.heap.size xs rfl rfl rfl rfl LG60.out (HX.out.below BE60.out) rfl (by omega) (by have := ZS60.out; omega) ⟨_, rfl⟩ ?_
                  intro a61 c61 u61 hg hb hgb
                  refine hK _ _ ?_
                  clear hK K
                  have BE61 := Lib.hid (BE60.out.trans (hb.mono ZB.out))
                  have LG61 := Lib.hid hg
                  have ZS61 := Lib.hid (Nat.lt_of_lt_of_le ZS60.out hb.size)
                  have CC61 := Lib.hid ((World.cell?_of_block (a := ⟨cb, 0, none⟩) (hgb.block cb CL60.out (fun e => by injection e with e; have := CZ.out; omega))).trans CC60.out)
                  have CL61 := Lib.hid (Nat.lt_of_lt_of_le CL60.out hb.size)
                  clear hg hb hgb
                  refine wpAny_ready (rs := [10]) (by kernel_rfl) (by simp) (AllReady.cons rfl (fun K hK => ?_) AllReady.nil)
                  refine step_app1 (.tmp 58) (.tmp 65) zb a61 xs.length c61 cb xs x0 rfl rfl rfl rfl LG61.out CC61.out (by omega) (by have := ZS61.out; omega) ?_
                  intro a62 c62 u62 hg hb
                  refine hK _ _ ?_
                  clear hK K
                  have BE62 := Lib.hid (BE61.out.trans (hb.mono ZB.out))
                  have LG62 := Lib.hid hg.ints
                  clear hg hb
                  refine wpAny_ready (rs := [11]) (by kernel_rfl) (by simp) (AllReady.cons rfl (fun K hK => ?_) AllReady.nil)
                  go_simp
                  refine (HSS.out a62 c62 u62 LG62.out).mono ?_
                  rintro e u63 ⟨am, cm, rfl, _, om, bm⟩
                  have BE63 := Lib.hid (BE62.out.trans (bm.mono BE62.out.size))
                  clear om bm
                  go_simp
                  refine hK _ _ ?_
                  clear hK K
                  refine wpAny_take (i := 12) (v := ?v64) rfl (by kernel_rfl) (by kernel_rfl) (by kernel_rfl) (fun _ _ _ h => h) (Or.inl ⟨by kernel_rfl, ?h64⟩) ?_
                  case h64 => intro w; go_simp; try with_reducible rfl
                  go_simp
                  refine wpAny_done (by kernel_rfl) ?_ _
                  go_simp
                  by_cases h8 : xs.length = 8
                  · have z8 : ((xs.length : Int) == 8) = true := by simp [h8]
                    have h8' : (xs.length : Int) = 8 := by omega
                    go_wp2
                    go_ret
                    exact ⟨rfl, Below.next B0.out (Nat.le_refl _) BE63.out⟩
                  · have z8 : ((xs.length : Int) == 8) = false := by simp; omega
                    have h8' : ¬ (xs.length : Int) = 8 := by omega
                    have hm := HMore.out h8
                    have hmI : ((ssOr (xs ++ [x0])).length : Int) = (S.length : Int) - 1 := by omega
                    have z9 : (((ssOr (xs ++ [x0])).length : Int) == (S.length : Int) - 1) = true := by simp [hmI]
                    have q1 := wrapW (n := (S.length : Int) - 1) (by omega)
                    have q1' := wrapW' (n := (S.length : Int) - 1) (by omega)
                    go_wp2
                    go_ret
                    exact ⟨ret_bool (by simp), Below.next B0.out (Nat.le_refl _) BE63.out⟩
              · skip
                go_simp
                refine hK _ _ ?_
                clear hK K
                have BE65 := Lib.hid (BE0.out.alloc BE0.out.size (.cells #[.int .i64 x0] 3))
                obtain ⟨cb, hcb⟩ : ∃ cb, cb = u0.heap.size := ⟨_, rfl⟩
                have CC65 := Lib.hid (show (u0.alloc (.cells #[.int .i64 x0] 3)).cell? ⟨cb, 0, none⟩ = some (.int .i64 x0) by rw [hcb]; simp)
                have CL65 := Lib.hid (show cb < (u0.alloc (.cells #[.int .i64 x0] 3)).heap.size by rw [hcb]; simp)
                rw [← hcb]
                clear hcb
                generalize u0.alloc (.cells #[.int .i64 x0] 3) = u65 at BE65 CC65 CL65 ⊢
                refine wpAny_ready (rs := [0]) (by kernel_rfl) (by simp) (AllReady.cons rfl (fun K hK => ?_) AllReady.nil)
                go_simp
                refine hK _ _ ?_
                clear hK K
                have BE66 := Lib.hid (BE65.out.alloc BE65.out.size (.cells #[] 3))
                have LG66 := Lib.hid (Grow.lit0 .i64 3 u65 u65.heap.size (Nat.le_refl _))
                obtain ⟨zb, hzb⟩ : ∃ zb, zb = u65.heap.size := ⟨_, rfl⟩
                have ZB := Lib.hid (show u0.heap.size ≤ zb by rw [hzb]; exact BE65.out.size)
                have ZS66 := Lib.hid (show zb < (u65.alloc (.cells #[] 3)).heap.size by rw [hzb]; simp)
                have CC66 := Lib.hid ((Below.alloc (Below.refl _ _) (Nat.le_refl _) (.cells #[] 3)).cell (p := ⟨cb, 0, none⟩) CL65.out |>.trans CC65.out)
                have CL66 := Lib.hid (show cb < (u65.alloc (.cells #[] 3)).heap.size by simp; exact Nat.lt_succ_of_lt CL65.out)
                have CZ := Lib.hid (show cb < zb by rw [hzb]; exact CL65.out)
                rw [← hzb] at LG66 ⊢
                clear hzb
                generalize u65.alloc (.cells #[] 3) = u66 at BE66 LG66 ZS66 CC66 CL66 ⊢
                refine wpAny_ready (rs := [2]) (by kernel_rfl) (by simp) (AllReady.cons rfl (fun K hK => ?_) AllReady.nil)
                refine step_app0 (.tmp 56) (.tmp 57) zb zb (some ⟨bx, offx, none⟩) xs.length cx u0.heap.size xs rfl rfl rfl rfl LG66.out (HX.out.below BE66.out) rfl (by omega) (by have := ZS66.out; omega) ⟨_, rfl⟩ ?_
                intro a67 c67 u67 hg hb hgb
                refine hK _ _ ?_
                clear hK K
                have BE67 := Lib.hid (BE66.out.trans (hb.mono ZB.out))
                have LG67 := Lib.hid hg
                have ZS67 := Lib.hid (Nat.lt_of_lt_of_le ZS66.out hb.size)
                have CC67 := Lib.hid ((World.cell?_of_block (a := ⟨cb, 0, none⟩) (hgb.block cb CL66.out (fun e => by injection e with e; have := CZ.out; omega))).trans CC66.out)
                have CL67 := Lib.hid (Nat.lt_of_lt_of_le CL66.out hb.size)
                clear hg hb hgb
                refine wpAny_ready (rs := [10]) (by kernel_rfl) (by simp) (AllReady.cons rfl (fun K hK => ?_) AllReady.nil)
                refine step_app1 (.tmp 58) (.tmp 65) zb a67 xs.length c67 cb xs x0 rfl rfl rfl rfl LG67.out CC67.out (by omega) (by have := ZS67.out; omega) ?_
                intro a68 c68 u68 hg hb
                refine hK _ _ ?_
                clear hK K
                have BE68 := Lib.hid (BE67.out.trans (hb.mono ZB.out))
                have LG68 := Lib.hid hg.ints
                clear hg hb
                refine wpAny_ready (rs := [11]) (by kernel_rfl) (by simp) (AllReady.cons rfl (fun K hK => ?_) AllReady.nil)
                go_simp
                refine (HSS.out a68 c68 u68 LG68.out).mono ?_
                rintro e u69 ⟨am, cm, rfl, _, om, bm⟩
                have BE69 := Lib.hid (BE68.out.trans (bm.mono BE68.out.size))
                clear om bm
                go_simp
                refine hK _ _ ?_
                clear hK K
                refine wpAny_take (i := 12) (v := ?v70) rfl (by kernel_rfl) (by kernel_rfl) (by kernel_rfl) (fun _ _ _ h => h) (Or.inl ⟨by kernel_rfl, ?h70⟩) ?_
                case h70 => intro w; go_simp; try with_reducible rfl
                go_simp
                refine wpAny_done (by kernel_rfl) ?_ _
                go_simp
                by_cases h8 : xs.length = 8
                · have z8 : ((xs.length : Int) == 8) = true := by simp [h8]
                  have h8' : (xs.length : Int) = 8 := by omega
                  go_wp2
                  go_ret
                  exact ⟨rfl, Below.next B0.out (Nat.le_refl _) BE69.out⟩
                · have z8 : ((xs.length : Int) == 8) = false := by simp; omega
                  have h8' : ¬ (xs.length : Int) = 8 := by omega
                  have hm := HMore.out h8
                  have hmI : ((ssOr (xs ++ [x0])).length : Int) = (S.length : Int) - 1 := by omega
                  have z9 : (((ssOr (xs ++ [x0])).length : Int) == (S.length : Int) - 1) = true := by simp [hmI]
                  have q1 := wrapW (n := (S.length : Int) - 1) (by omega)
                  have q1' := wrapW' (n := (S.length : Int) - 1) (by omega)
                  go_wp2
                  go_ret
                  exact ⟨ret_bool (by simp), Below.next B0.out (Nat.le_refl _) BE69.out⟩
  · go_enter Try.func3, Try.ntmps3
    go_wp2
    go_ret
    exact ⟨rfl, Below.refl _ _⟩
end Go.Proofs.Ytbjmkbajabbogaa
