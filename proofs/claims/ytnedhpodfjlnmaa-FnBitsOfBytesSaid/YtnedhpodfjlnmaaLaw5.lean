/-
  The law of BitsOfBytes, walked: it returns true for every code, and writes into nothing that was there.
-/
import Derived.Test.YtnedhpodfjlnmaaDraw7
import Derived.Deep.RegionLaw
namespace Go.Proofs.Ytnedhpodfjlnmaa
open Go.RowKit

section
variable {w : World} {ops : Array Oper} {o : Oper} {a : Act} {Q : Exit → Act → World → Prop}
theorem step_appendS {K : Act → World → Prop} {E : Prop} (s x : Operand) (base : Nat) (A : Option Addr) (n cap : Nat) (xs ys : List Int) (ad : Addr) (m c B : Nat)
    (hw : Region.wanted o (yielded ops a.tmps) = true) (ho : o.op = .call { callee := .builtin .append, args := #[s, x], argTypes := #[23, 23] }) (hs : a.eval s = .slice A n cap) (hx : a.eval x = .slice (some ad) m c)
    (hg : Grow .i64 3 w base A n cap xs) (hy : Ints .i64 w B (some ad) ys) (hm : ys.length = m) (hn : n + m < 1099511627776) (hb : base ≤ w.heap.size)
    (h : ∀ a' cap' w', Grow .i64 3 w' base a' (n + m) cap' (xs ++ ys) → Below base w w' → K (a.put o.dst (.slice a' (n + m) cap')) w') : if Region.wanted o (yielded ops a.tmps) = true then Oper.wp Try.prog o a w K Q else E := by
  rw [if_pos hw]
  obtain ⟨i0, hi0, hz0, hz1, hz2⟩ := info_parts Try.infoInt
  refine wp_append_own w s x _ ho base 3 i0 (.int .i64 0) 1 8 Try.underlying23 hi0 hz0 hz1 hz2 rfl (by omega) _ n _ hs hg ad m c (ys.map (Value.int .i64)) hx (by simp [hm]) ?_ (ints_oneCell _ _) (by unfold maxLen; omega) (by omega) hb ?_
  · intro j u hj
    have hjl : j < ys.length := by have := (List.getElem?_eq_some_iff.1 hj).1; simpa using this
    obtain ⟨b, off, e, _, hc⟩ := hy.at_ hjl
    injection e with e
    subst e
    have hadd : (⟨b, off, none⟩ : Addr).add j = ⟨b, off + j, none⟩ := by unfold Addr.add; split <;> simp_all
    rw [hadd, hc]
    simp [hjl] at hj
    rw [← hj, el_lt hjl]
  · intro v' w' h2 h3 h4
    have hlen : (xs.map (Value.int .i64) ++ ys.map (Value.int .i64)) = (xs ++ ys).map (Value.int .i64) := by simp
    rw [hlen] at h2
    have hsh : ∃ a' cap', v' = .slice a' (n + m) cap' := by
      rcases h2.2 with ⟨e, h0⟩ | ⟨g, c', cur, e, _⟩
      · exact ⟨none, 0, by rw [e, h0]⟩
      · exact ⟨_, _, e⟩
    obtain ⟨a', cap', rfl⟩ := hsh
    exact h a' cap' w' h2 ((Below.refl _ _).grown h3 hb hg.own)
theorem step_conv {K : Act → World → Prop} {E : Prop} (x : Operand) (A : Option Addr) (n c : Nat) (t : ByteArray) (hw : Region.wanted o (yielded ops a.tmps) = true) (ho : o.op = .convert 22 9 x) (hx : a.eval x = .slice A n c)
    (hr : (convert 22 9 (.slice A n c)).run Try.prog w = .ok (.string t) w) (h : K (a.put o.dst (.string t)) w) : if Region.wanted o (yielded ops a.tmps) = true then Oper.wp Try.prog o a w K Q else E := by
  rw [if_pos hw]
  unfold Oper.wp execOp
  simp only [ho, hx, Sem.run_bind, Sem.run_pure, Result.andThen_ok, hr]
  exact h
end
theorem Ints.drop {k : IntKind} {w : World} {B b h : Nat} {xs : List Int} (hx : Ints k w B (some ⟨b, 0, none⟩) xs) : Ints k w B (some ⟨b, h, none⟩) (xs.drop h) := fun hne => by
  have hne' : xs ≠ [] := by intro e; subst e; simp at hne
  obtain ⟨b', off, e, hb, hc⟩ := hx hne'
  injection e with e
  injection e with e1 e2
  subst e1 e2
  refine ⟨b, h, rfl, hb, fun i hi => ?_⟩
  have hi2 : h + i < xs.length := by simp at hi; omega
  have := hc (h + i) hi2
  rw [Nat.zero_add] at this
  rw [this, el_drop]

theorem second_row {A : Option Addr} {cc h : Nat} {ds : List Int} {w : World} (hby : ∀ x ∈ ds, isByte x) (hl : ds.length ≤ 128) (hx : Ints .u8 w w.heap.size A (ds.drop h)) :
    Calls Try.prog 20 #[.slice A (ds.length - h) cc] w (RowPost (bobOr (ds.drop h)) w) := by
  have := bitsOfBytes_row A cc w.heap.size (ds.drop h) w hx (Nat.le_refl _) (fun n hn => hby n (List.mem_of_mem_drop hn)) (by simp [bytesOk]; omega)
  rwa [List.length_drop] at this
theorem drop_at {k : IntKind} {w : World} {B b h c : Nat} {xs : List Int} (hlc : xs.length ≤ c) (hx : Ints k w B (some ⟨b, 0, none⟩) xs) : Ints k w B (if c = h then some ⟨b, 0, none⟩ else some ⟨b, h, none⟩) (xs.drop h) := by
  split
  · next e =>
    rw [List.drop_eq_nil_of_le (by omega)]
    exact Ints.nil
  · exact hx.drop
theorem same_len {T : List Int} {m B B' c c' : Nat} {g v : Option Addr} {w : World} (hm : T.length = m) (hg : Ints .i64 w B g T) (hv : Ints .i64 w B' v T) (hl : T.length ≤ 1048576) :
    Calls Try.prog 21 #[.slice g T.length c, .slice v m c'] w fun e w' => e = .returned (.bool true) ∧ ∃ n, w' = w.drewN n := by
  subst hm
  have h := sameInts_any g v c c' B B' T T w hg hv hl
  rwa [decide_eq_true (rfl : T = T)] at h

set_option maxHeartbeats 6000000 in
theorem walkBitsOfBytes (a : Option Addr) (c : Nat) (code : List Int) (w : World) (hx : Ints .u8 w w.heap.size a code) (hw : ∀ n ∈ code, (Lit.int .u8 n).wf = true) (hc : code.length ≤ c) (hcm : c ≤ maxLen) :
    Calls Try.prog 4 #[.slice a code.length c] w fun e w' => e = .returned (.bool true) ∧ Below w.heap.size w w' := by
  have hb := isByte_of_wf hw
  clear hw
  by_cases hl : code.length ≤ 1048576
  · go_enter Try.func4, Try.ntmps4
    go_wp2_with fail
    refine (drawBitsOfBytes_any a c code w hx hb hc hcm).mono ?_
    rintro e w1 ⟨ds, b0, c1, rfl, l1, lc, hby, i1, b1⟩
    have I1 := Lib.hid i1
    have B1 := Lib.hid b1
    have HBy := Lib.hid hby
    clear hx hb hc hcm i1 b1 hby
    have L1 := Lib.hid (show ds.length ≤ maxLen by unfold maxLen; omega)
    obtain ⟨T, hT⟩ : ∃ T, T = bobOr ds := ⟨_, rfl⟩
    have hTl : T.length ≤ 1048576 := by rw [hT]; exact bobOr_length ds
    have HT := Lib.hid hT
    clear hT
    have z3 : decide (T = T) = true := by simp
    go_wp2_with fail
    refine (bitsOfBytes_any (some ⟨b0, 0, none⟩) c1 w1.heap.size ds w1 I1.out (Nat.le_refl _) HBy.out).mono ?_
    rw [← HT.out]
    rintro e w2 ⟨g, cg, rfl, o2, b2⟩
    have G2 := Lib.hid (own_of_list o2).ints
    have J1 := Lib.hid (I1.out.next b2)
    have B2 := Lib.hid (Below.next B1.out (Nat.le_refl _) b2)
    clear o2 b2
    go_wp2_with fail
    refine (specBitsOfBytes_any (some ⟨b0, 0, none⟩) c1 w2.heap.size ds w2 J1.out (Nat.le_refl _) HBy.out L1.out).mono ?_
    rw [← HT.out]
    rintro e w3 ⟨v3, cv3, rfl, o3, b3⟩
    have V3 := Lib.hid (own_of_list o3).ints
    have G3 := Lib.hid (G2.out.next b3)
    have K1 := Lib.hid (J1.out.next b3)
    have B3 := Lib.hid (Below.next B2.out (Nat.le_refl _) b3)
    clear o3 b3
    go_wp2_with fail
    refine (sameInts_any g v3 cg cv3 w3.heap.size w3.heap.size T T w3 G3.out V3.out hTl).mono ?_
    rintro e w4 ⟨rfl, n4, rfl⟩
    have B4 := Lib.hid (below_drewN B3.out n4)
    have G4 : Hid (Ints .i64 (w3.drewN n4) (w3.drewN n4).heap.size g T) := G3.out
    have M1 : Hid (Ints .u8 (w3.drewN n4) (w3.drewN n4).heap.size (some ⟨b0, 0, none⟩) ds) := K1.out
    clear G2 G3 V3 J1 K1 I1 B3
    generalize w3.drewN n4 = w4 at *
    by_cases h128 : ds.length ≤ 128
    · have hyb := bytesOfBits_any g cg w4.heap.size T w4 G4.out (Nat.le_refl _)
      have hpk : packOk T = true := by rw [HT.out]; exact bob_pack h128
      have hyd : yobOr T = ds := by rw [HT.out]; exact yob_bob h128 HBy.out
      rw [hpk, hyd] at hyb
      have HYb := Lib.hid hyb
      have hTn : T.length = 8 * ds.length := by rw [HT.out, bob_eq h128, bitList_length]; omega
      have HTn := Lib.hid hTn
      clear hyb hpk hyd hTn
      go_wp2_with fail
      refine HYb.out.mono ?_
      rintro e w5 ⟨v5, cv5, rfl, o5, b5⟩
      have V5 := Lib.hid (own_of_bytes o5).ints
      have G5 := Lib.hid (G4.out.next b5)
      have N1 := Lib.hid (M1.out.next b5)
      have B5 := Lib.hid (Below.next B4.out (Nat.le_refl _) b5)
      clear o5 b5 HYb
      have cv1 := conv_str (w := w5.drew) (c := cv5) V5.out rfl
      have cv2 := conv_str (w := w5.drew) (c := c1) N1.out rfl
      obtain ⟨h, hh⟩ : ∃ h : Nat, h = ds.length / 2 := ⟨_, rfl⟩
      have hdiv : (ds.length : Int) / 2 = (h : Int) := by omega
      have hh1 : h ≤ c1 := by omega
      have hh2 : h ≤ ds.length := by omega
      have HH := Lib.hid hh
      clear hh
      have hlt : (ds.take h).length = h := by simp; omega
      have hA1 := bitsOfBytes_row (some ⟨b0, 0, none⟩) c1 w5.heap.size (ds.take h) w5.drew N1.out.take (Nat.le_refl _) (fun n hn => HBy.out n (List.mem_of_mem_take hn)) (by simp [bytesOk]; omega)
      rw [hlt] at hA1
      have HA1 := Lib.hid hA1
      clear hA1 hlt
      have hm8 : IntKind.i64.wrap (8 * (ds.length : Int)) = (T.length : Int) := by have := HTn.out; rw [IntKind.wrap_i64]; omega
      go_wp2_with fail
      refine wp_region_any (by kernel_rfl) ?_
      change wpAny _ _ _ _ _ _ _ (World.drew _)
      refine wpAny_take (i := 0) (v := ?v0) rfl (by kernel_rfl) (by kernel_rfl) (by kernel_rfl) (fun _ _ _ h => h) (Or.inl ⟨by rfl, ?h0⟩) ?_
      case h0 => intro w; go_simp; try with_reducible rfl
      refine wpAny_take (i := 1) (v := ?v1) rfl (by kernel_rfl) (by kernel_rfl) (by kernel_rfl) (fun _ _ _ h => h) (Or.inl ⟨by rfl, ?h1⟩) ?_
      case h1 => intro w; go_simp; try with_reducible rfl
      refine wpAny_take (i := 2) (v := ?v2) rfl (by kernel_rfl) (by kernel_rfl) (by kernel_rfl) (fun _ _ _ h => h) (Or.inl ⟨by rfl, ?h2⟩) ?_
      case h2 => intro w; go_simp; try with_reducible rfl
      refine wpAny_take (i := 4) (v := ?v4) rfl (by kernel_rfl) (by kernel_rfl) (by kernel_rfl) (fun _ _ _ h => h) (Or.inl ⟨by rfl, ?h4⟩) ?_
      case h4 => intro w; go_simp; try with_reducible rfl
      refine wpAny_ready (rs := [3, 5]) (by kernel_rfl) (by simp) (AllReady.cons rfl (fun K hK => ?_) (AllReady.cons rfl (fun K hK => ?_) AllReady.nil))
      · refine step_conv (.tmp 39) v5 ds.length cv5 (strOfNums ds) (by kernel_rfl) rfl (by rfl) cv1 ?_
        go_simp
        refine hK _ _ ?_
        clear hK K
        refine wpAny_ready (rs := [5]) (by kernel_rfl) (by simp) (AllReady.cons rfl (fun K hK => ?_) AllReady.nil)
        refine step_conv (.tmp 41) (some ⟨b0, 0, none⟩) ds.length c1 (strOfNums ds) (by kernel_rfl) rfl (by rfl) cv2 ?_
        go_simp
        refine hK _ _ ?_
        clear hK K
        refine wpAny_take (i := 6) (v := ?va6) rfl (by kernel_rfl) (by kernel_rfl) (by kernel_rfl) (fun _ _ _ h => h) (Or.inl ⟨by kernel_rfl, ?ha6⟩) ?_
        case ha6 => intro w; go_simp; try with_reducible rfl
        go_simp
        refine wpAny_take (i := 7) (v := ?va7) rfl (by kernel_rfl) (by kernel_rfl) (by kernel_rfl) (fun _ _ _ h => h) (Or.inl ⟨by kernel_rfl, ?ha7⟩) ?_
        case ha7 => intro w; go_simp; try with_reducible rfl
        go_simp
        refine wpAny_take (i := 8) (v := ?va8) rfl (by kernel_rfl) (by kernel_rfl) (by kernel_rfl) (fun _ _ _ h => h) (Or.inl ⟨by kernel_rfl, ?ha8⟩) ?_
        case ha8 => intro w; go_simp; try with_reducible rfl
        go_simp
        refine wpAny_take (i := 9) (v := ?va9) rfl (by kernel_rfl) (by kernel_rfl) (by kernel_rfl) (fun _ _ _ h => h) (Or.inl ⟨by kernel_rfl, ?ha9⟩) ?_
        case ha9 => intro w; go_simp; try with_reducible rfl
        go_simp
        refine wpAny_take (i := 10) (v := ?va10) rfl (by kernel_rfl) (by kernel_rfl) (by kernel_rfl) (fun _ _ _ h => h) (Or.inl ⟨by kernel_rfl, ?ha10⟩) ?_
        case ha10 => intro w; go_simp; try with_reducible rfl
        go_simp
        refine wpAny_take (i := 11) (v := ?va11) rfl (by kernel_rfl) (by kernel_rfl) (by kernel_rfl) (fun _ _ _ h => h) (Or.inl ⟨by kernel_rfl, ?ha11⟩) ?_
        case ha11 => intro w; go_simp; try with_reducible rfl
        go_simp
        refine wpAny_take (i := 12) (v := ?va12) rfl (by kernel_rfl) (by kernel_rfl) (by kernel_rfl) (fun _ _ _ h => h) (Or.inl ⟨by kernel_rfl, ?ha12⟩) ?_
        case ha12 => intro w; go_simp; try with_reducible rfl
        go_simp
        refine wpAny_take (i := 13) (v := ?va13) rfl (by kernel_rfl) (by kernel_rfl) (by kernel_rfl) (fun _ _ _ h => h) (Or.inl ⟨by kernel_rfl, ?ha13⟩) ?_
        case ha13 => intro w; go_simp; try with_reducible rfl
        go_simp
        refine wpAny_take (i := 14) (v := ?va14) rfl (by kernel_rfl) (by kernel_rfl) (by kernel_rfl) (fun _ _ _ h => h) (Or.inl ⟨by kernel_rfl, ?ha14⟩) ?_
        case ha14 => intro w; go_simp; try with_reducible rfl
        go_simp
        refine wpAny_take (i := 15) (v := ?va15) rfl (by kernel_rfl) (by kernel_rfl) (by kernel_rfl) (fun _ _ _ h => h) (Or.inl ⟨by kernel_rfl, ?ha15⟩) ?_
        case ha15 => intro w; go_simp; try with_reducible rfl
        go_simp
        refine wpAny_take (i := 16) (v := ?va16) rfl (by kernel_rfl) (by kernel_rfl) (by kernel_rfl) (fun _ _ _ h => h) (Or.inl ⟨by kernel_rfl, ?ha16⟩) ?_
        case ha16 => intro w; go_simp; try with_reducible rfl
        go_simp
        refine wpAny_take (i := 17) (v := ?va17) rfl (by kernel_rfl) (by kernel_rfl) (by kernel_rfl) (fun _ _ _ h => h) (Or.inl ⟨by kernel_rfl, ?ha17⟩) ?_
        case ha17 => intro w; go_simp; try with_reducible rfl
        go_simp
        refine wpAny_take (i := 18) (v := ?va18) rfl (by kernel_rfl) (by kernel_rfl) (by kernel_rfl) (fun _ _ _ h => h) (Or.inl ⟨by kernel_rfl, ?ha18⟩) ?_
        case ha18 => intro w; go_simp; try with_reducible rfl
        go_simp
        refine wpAny_take (i := 19) (v := ?va19) rfl (by kernel_rfl) (by kernel_rfl) (by kernel_rfl) (fun _ _ _ h => h) (Or.inl ⟨by kernel_rfl, ?ha19⟩) ?_
        case ha19 => intro w; go_simp; try with_reducible rfl
        go_simp
        refine wpAny_take (i := 20) (v := ?va20) rfl (by kernel_rfl) (by kernel_rfl) (by kernel_rfl) (fun _ _ _ h => h) (Or.inl ⟨by kernel_rfl, ?ha20⟩) ?_
        case ha20 => intro w; go_simp; try with_reducible rfl
        go_simp
        refine wpAny_take (i := 22) (v := ?va22) rfl (by kernel_rfl) (by kernel_rfl) (by kernel_rfl) (fun _ _ _ h => h) (Or.inl ⟨by kernel_rfl, ?ha22⟩) ?_
        case ha22 => intro w; go_simp; try with_reducible rfl
        go_simp
        refine wpAny_take (i := 23) (v := ?va23) rfl (by kernel_rfl) (by kernel_rfl) (by kernel_rfl) (fun _ _ _ h => h) (Or.inl ⟨by kernel_rfl, ?ha23⟩) ?_
        case ha23 => intro w; go_simp; try with_reducible rfl
        go_simp
        refine wpAny_take (i := 24) (v := ?va24) rfl (by kernel_rfl) (by kernel_rfl) (by kernel_rfl) (fun _ _ _ h => h) (Or.inl ⟨by kernel_rfl, ?ha24⟩) ?_
        case ha24 => intro w; go_simp; try with_reducible rfl
        go_simp
        refine wpAny_ready (rs := [21]) (by kernel_rfl) (by simp) (AllReady.cons rfl (fun K hK => ?_) AllReady.nil)
        go_simp
        refine HA1.out.mono ?_
        rintro e w6 ⟨b6, n6, rfl, hl6, hr6, hb6, bb6⟩
        have HL6 := Lib.hid hl6
        have HR6 := Lib.hid hr6
        have HB6 := Lib.hid hb6
        have BB6 := Lib.hid bb6
        clear hl6 hr6 hb6 bb6
        go_simp
        refine hK _ _ ?_
        clear hK K
        have N6 := Lib.hid (Ints.next (w := w5.drew) N1.out BB6.out)
        have HA2 := Lib.hid (fun A cc => second_row (A := A) (cc := cc) (h := h) (w := w6) HBy.out h128)
        refine wpAny_ready (rs := [25]) (by kernel_rfl) (by simp) (AllReady.cons rfl (fun K hK => ?_) AllReady.nil)
        go_simp
        refine (HA2.out _ _ ?_).mono ?_
        · first
            | exact drop_at lc N6.out
            | exact Ints.drop N6.out
        rintro e w7 ⟨b7, n7, rfl, hl7, hr7, hb7, bb7⟩
        have HL7 := Lib.hid hl7
        have HR7 := Lib.hid hr7
        have BB7 := Lib.hid bb7
        clear hl7 hr7 hb7 bb7 HA2
        go_simp
        refine hK _ _ ?_
        clear hK K
        have GR7 := Lib.hid (grow_of_row (row_below HR6.out BB7.out HR6.out.lt) HL6.out HB6.out (by have := HL6.out; have := bobOr_length (ds.take h); unfold maxLen; omega))
        have hn67 : n6 + n7 < 1099511627776 := by have := HL6.out; have := HL7.out; have := bobOr_length (ds.take h); have := bobOr_length (ds.drop h); omega
        have hs57 : w5.heap.size ≤ w7.heap.size := by have := BB6.out.size; have := BB7.out.size; simp only [World.drew] at *; omega
        refine wpAny_ready (rs := [26]) (by kernel_rfl) (by simp) (AllReady.cons rfl (fun K hK => ?_) AllReady.nil)
        refine step_appendS (.tmp 58) (.tmp 62) w5.heap.size (some ⟨b6, 0, none⟩) n6 n6 (bobOr (ds.take h)) (bobOr (ds.drop h)) ⟨b7, 0, none⟩ n7 n7 w7.heap.size (by kernel_rfl) rfl (by rfl) (by rfl) GR7.out (ints_of_row HR7.out HL7.out.symm HR7.out.lt) HL7.out hn67 hs57 ?_
        intro a8 cap8 w8 hg8 hb8
        have HG8 := Lib.hid hg8
        have HB8 := Lib.hid hb8
        clear hg8 hb8
        go_simp
        refine hK _ _ ?_
        clear hK K
        have B57 : Hid (Below w5.heap.size w5 w7) := Below.next (w := w5) (w' := w6) ⟨BB6.out.os, BB6.out.tape, BB6.out.output, BB6.out.size, BB6.out.block⟩ (Nat.le_refl _) BB7.out
        have B58 := Lib.hid (B57.out.trans HB8.out)
        have HEq : Hid (bobOr (ds.take h) ++ bobOr (ds.drop h) = T) := by rw [HT.out]; exact bob_append h128 hh2
        have HG9 : Hid (Grow .i64 3 w8 w5.heap.size a8 (n6 + n7) cap8 T) := by have := HG8.out; rw [HEq.out] at this; exact this
        have HC := Lib.hid (same_len (m := n6 + n7) (c := cg) (c' := cap8) HG9.out.len (G5.out.below B58.out) HG9.out.ints hTl)
        refine wpAny_ready (rs := [27]) (by kernel_rfl) (by simp) (AllReady.cons rfl (fun K hK => ?_) AllReady.nil)
        go_simp
        refine HC.out.mono ?_
        rintro e w9 ⟨rfl, n9, rfl⟩
        go_simp
        refine hK _ _ ?_
        clear hK K HC
        refine wpAny_take (i := 28) (v := ?vb28) rfl (by kernel_rfl) (by kernel_rfl) (by kernel_rfl) (fun _ _ _ h => h) (Or.inl ⟨by kernel_rfl, ?hb28⟩) ?_
        case hb28 => intro w; go_simp; try with_reducible rfl
        go_simp
        refine wpAny_take (i := 29) (v := ?vb29) rfl (by kernel_rfl) (by kernel_rfl) (by kernel_rfl) (fun _ _ _ h => h) (Or.inl ⟨by kernel_rfl, ?hb29⟩) ?_
        case hb29 => intro w; go_simp; try with_reducible rfl
        go_simp
        refine wpAny_done (by kernel_rfl) ?_ _
        go_wp2
        all_goals
          go_ret
          exact ⟨rfl, below_drewN (B5.out.trans (B58.out.mono B5.out.size)) n9⟩
      · refine step_conv (.tmp 41) (some ⟨b0, 0, none⟩) ds.length c1 (strOfNums ds) (by kernel_rfl) rfl (by rfl) cv2 ?_
        go_simp
        refine hK _ _ ?_
        clear hK K
        refine wpAny_ready (rs := [3]) (by kernel_rfl) (by simp) (AllReady.cons rfl (fun K hK => ?_) AllReady.nil)
        refine step_conv (.tmp 39) v5 ds.length cv5 (strOfNums ds) (by kernel_rfl) rfl (by rfl) cv1 ?_
        go_simp
        refine hK _ _ ?_
        clear hK K
        refine wpAny_take (i := 6) (v := ?vc6) rfl (by kernel_rfl) (by kernel_rfl) (by kernel_rfl) (fun _ _ _ h => h) (Or.inl ⟨by kernel_rfl, ?hc6⟩) ?_
        case hc6 => intro w; go_simp; try with_reducible rfl
        go_simp
        refine wpAny_take (i := 7) (v := ?vc7) rfl (by kernel_rfl) (by kernel_rfl) (by kernel_rfl) (fun _ _ _ h => h) (Or.inl ⟨by kernel_rfl, ?hc7⟩) ?_
        case hc7 => intro w; go_simp; try with_reducible rfl
        go_simp
        refine wpAny_take (i := 8) (v := ?vc8) rfl (by kernel_rfl) (by kernel_rfl) (by kernel_rfl) (fun _ _ _ h => h) (Or.inl ⟨by kernel_rfl, ?hc8⟩) ?_
        case hc8 => intro w; go_simp; try with_reducible rfl
        go_simp
        refine wpAny_take (i := 9) (v := ?vc9) rfl (by kernel_rfl) (by kernel_rfl) (by kernel_rfl) (fun _ _ _ h => h) (Or.inl ⟨by kernel_rfl, ?hc9⟩) ?_
        case hc9 => intro w; go_simp; try with_reducible rfl
        go_simp
        refine wpAny_take (i := 10) (v := ?vc10) rfl (by kernel_rfl) (by kernel_rfl) (by kernel_rfl) (fun _ _ _ h => h) (Or.inl ⟨by kernel_rfl, ?hc10⟩) ?_
        case hc10 => intro w; go_simp; try with_reducible rfl
        go_simp
        refine wpAny_take (i := 11) (v := ?vc11) rfl (by kernel_rfl) (by kernel_rfl) (by kernel_rfl) (fun _ _ _ h => h) (Or.inl ⟨by kernel_rfl, ?hc11⟩) ?_
        case hc11 => intro w; go_simp; try with_reducible rfl
        go_simp
        refine wpAny_take (i := 12) (v := ?vc12) rfl (by kernel_rfl) (by kernel_rfl) (by kernel_rfl) (fun _ _ _ h => h) (Or.inl ⟨by kernel_rfl, ?hc12⟩) ?_
        case hc12 => intro w; go_simp; try with_reducible rfl
        go_simp
        refine wpAny_take (i := 13) (v := ?vc13) rfl (by kernel_rfl) (by kernel_rfl) (by kernel_rfl) (fun _ _ _ h => h) (Or.inl ⟨by kernel_rfl, ?hc13⟩) ?_
        case hc13 => intro w; go_simp; try with_reducible rfl
        go_simp
        refine wpAny_take (i := 14) (v := ?vc14) rfl (by kernel_rfl) (by kernel_rfl) (by kernel_rfl) (fun _ _ _ h => h) (Or.inl ⟨by kernel_rfl, ?hc14⟩) ?_
        case hc14 => intro w; go_simp; try with_reducible rfl
        go_simp
        refine wpAny_take (i := 15) (v := ?vc15) rfl (by kernel_rfl) (by kernel_rfl) (by kernel_rfl) (fun _ _ _ h => h) (Or.inl ⟨by kernel_rfl, ?hc15⟩) ?_
        case hc15 => intro w; go_simp; try with_reducible rfl
        go_simp
        refine wpAny_take (i := 16) (v := ?vc16) rfl (by kernel_rfl) (by kernel_rfl) (by kernel_rfl) (fun _ _ _ h => h) (Or.inl ⟨by kernel_rfl, ?hc16⟩) ?_
        case hc16 => intro w; go_simp; try with_reducible rfl
        go_simp
        refine wpAny_take (i := 17) (v := ?vc17) rfl (by kernel_rfl) (by kernel_rfl) (by kernel_rfl) (fun _ _ _ h => h) (Or.inl ⟨by kernel_rfl, ?hc17⟩) ?_
        case hc17 => intro w; go_simp; try with_reducible rfl
        go_simp
        refine wpAny_take (i := 18) (v := ?vc18) rfl (by kernel_rfl) (by kernel_rfl) (by kernel_rfl) (fun _ _ _ h => h) (Or.inl ⟨by kernel_rfl, ?hc18⟩) ?_
        case hc18 => intro w; go_simp; try with_reducible rfl
        go_simp
        refine wpAny_take (i := 19) (v := ?vc19) rfl (by kernel_rfl) (by kernel_rfl) (by kernel_rfl) (fun _ _ _ h => h) (Or.inl ⟨by kernel_rfl, ?hc19⟩) ?_
        case hc19 => intro w; go_simp; try with_reducible rfl
        go_simp
        refine wpAny_take (i := 20) (v := ?vc20) rfl (by kernel_rfl) (by kernel_rfl) (by kernel_rfl) (fun _ _ _ h => h) (Or.inl ⟨by kernel_rfl, ?hc20⟩) ?_
        case hc20 => intro w; go_simp; try with_reducible rfl
        go_simp
        refine wpAny_take (i := 22) (v := ?vc22) rfl (by kernel_rfl) (by kernel_rfl) (by kernel_rfl) (fun _ _ _ h => h) (Or.inl ⟨by kernel_rfl, ?hc22⟩) ?_
        case hc22 => intro w; go_simp; try with_reducible rfl
        go_simp
        refine wpAny_take (i := 23) (v := ?vc23) rfl (by kernel_rfl) (by kernel_rfl) (by kernel_rfl) (fun _ _ _ h => h) (Or.inl ⟨by kernel_rfl, ?hc23⟩) ?_
        case hc23 => intro w; go_simp; try with_reducible rfl
        go_simp
        refine wpAny_take (i := 24) (v := ?vc24) rfl (by kernel_rfl) (by kernel_rfl) (by kernel_rfl) (fun _ _ _ h => h) (Or.inl ⟨by kernel_rfl, ?hc24⟩) ?_
        case hc24 => intro w; go_simp; try with_reducible rfl
        go_simp
        refine wpAny_ready (rs := [21]) (by kernel_rfl) (by simp) (AllReady.cons rfl (fun K hK => ?_) AllReady.nil)
        go_simp
        refine HA1.out.mono ?_
        rintro e w6 ⟨b6, n6, rfl, hl6, hr6, hb6, bb6⟩
        have HL6 := Lib.hid hl6
        have HR6 := Lib.hid hr6
        have HB6 := Lib.hid hb6
        have BB6 := Lib.hid bb6
        clear hl6 hr6 hb6 bb6
        go_simp
        refine hK _ _ ?_
        clear hK K
        have N6 := Lib.hid (Ints.next (w := w5.drew) N1.out BB6.out)
        have HA2 := Lib.hid (fun A cc => second_row (A := A) (cc := cc) (h := h) (w := w6) HBy.out h128)
        refine wpAny_ready (rs := [25]) (by kernel_rfl) (by simp) (AllReady.cons rfl (fun K hK => ?_) AllReady.nil)
        go_simp
        refine (HA2.out _ _ ?_).mono ?_
        · first
            | exact drop_at lc N6.out
            | exact Ints.drop N6.out
        rintro e w7 ⟨b7, n7, rfl, hl7, hr7, hb7, bb7⟩
        have HL7 := Lib.hid hl7
        have HR7 := Lib.hid hr7
        have BB7 := Lib.hid bb7
        clear hl7 hr7 hb7 bb7 HA2
        go_simp
        refine hK _ _ ?_
        clear hK K
        have GR7 := Lib.hid (grow_of_row (row_below HR6.out BB7.out HR6.out.lt) HL6.out HB6.out (by have := HL6.out; have := bobOr_length (ds.take h); unfold maxLen; omega))
        have hn67 : n6 + n7 < 1099511627776 := by have := HL6.out; have := HL7.out; have := bobOr_length (ds.take h); have := bobOr_length (ds.drop h); omega
        have hs57 : w5.heap.size ≤ w7.heap.size := by have := BB6.out.size; have := BB7.out.size; simp only [World.drew] at *; omega
        refine wpAny_ready (rs := [26]) (by kernel_rfl) (by simp) (AllReady.cons rfl (fun K hK => ?_) AllReady.nil)
        refine step_appendS (.tmp 58) (.tmp 62) w5.heap.size (some ⟨b6, 0, none⟩) n6 n6 (bobOr (ds.take h)) (bobOr (ds.drop h)) ⟨b7, 0, none⟩ n7 n7 w7.heap.size (by kernel_rfl) rfl (by rfl) (by rfl) GR7.out (ints_of_row HR7.out HL7.out.symm HR7.out.lt) HL7.out hn67 hs57 ?_
        intro a8 cap8 w8 hg8 hb8
        have HG8 := Lib.hid hg8
        have HB8 := Lib.hid hb8
        clear hg8 hb8
        go_simp
        refine hK _ _ ?_
        clear hK K
        have B57 : Hid (Below w5.heap.size w5 w7) := Below.next (w := w5) (w' := w6) ⟨BB6.out.os, BB6.out.tape, BB6.out.output, BB6.out.size, BB6.out.block⟩ (Nat.le_refl _) BB7.out
        have B58 := Lib.hid (B57.out.trans HB8.out)
        have HEq : Hid (bobOr (ds.take h) ++ bobOr (ds.drop h) = T) := by rw [HT.out]; exact bob_append h128 hh2
        have HG9 : Hid (Grow .i64 3 w8 w5.heap.size a8 (n6 + n7) cap8 T) := by have := HG8.out; rw [HEq.out] at this; exact this
        have HC := Lib.hid (same_len (m := n6 + n7) (c := cg) (c' := cap8) HG9.out.len (G5.out.below B58.out) HG9.out.ints hTl)
        refine wpAny_ready (rs := [27]) (by kernel_rfl) (by simp) (AllReady.cons rfl (fun K hK => ?_) AllReady.nil)
        go_simp
        refine HC.out.mono ?_
        rintro e w9 ⟨rfl, n9, rfl⟩
        go_simp
        refine hK _ _ ?_
        clear hK K HC
        refine wpAny_take (i := 28) (v := ?vd28) rfl (by kernel_rfl) (by kernel_rfl) (by kernel_rfl) (fun _ _ _ h => h) (Or.inl ⟨by kernel_rfl, ?hd28⟩) ?_
        case hd28 => intro w; go_simp; try with_reducible rfl
        go_simp
        refine wpAny_take (i := 29) (v := ?vd29) rfl (by kernel_rfl) (by kernel_rfl) (by kernel_rfl) (fun _ _ _ h => h) (Or.inl ⟨by kernel_rfl, ?hd29⟩) ?_
        case hd29 => intro w; go_simp; try with_reducible rfl
        go_simp
        refine wpAny_done (by kernel_rfl) ?_ _
        go_wp2
        all_goals
          go_ret
          exact ⟨rfl, below_drewN (B5.out.trans (B58.out.mono B5.out.size)) n9⟩
    · have hz : T.length = 0 := by rw [HT.out]; simp [bobOr, bytesOk, h128]
      go_wp2_with fail
      refine (alive_any w4).mono ?_
      rintro e w5 ⟨rfl, b5⟩
      have B5 := Lib.hid (Below.next B4.out (Nat.le_refl _) b5)
      clear b5
      go_wp2
      go_ret
      exact ⟨rfl, B5.out⟩
  · go_enter Try.func4, Try.ntmps4
    go_wp2
    go_ret
    exact ⟨rfl, Below.refl _ _⟩
end Go.Proofs.Ytnedhpodfjlnmaa
