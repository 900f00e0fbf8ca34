/-
  The law of EncodeBlocks, walked: it returns true for every code, and writes into nothing that was there. Condition: the program's tables lie in their variables.
-/
import Derived.Test.YtflplihhakepfaaDoorNibDraw2
import Derived.Test.YtflplihhakepfaaDoorNibMath2
namespace Go.Proofs.YtflplihhakepfaaDoor
open Go.RowKit

section
variable {w : World} {ops : Array Oper} {o : Oper} {a : Act} {Q : Exit → Act → World → Prop}
theorem step_appendA {K : Act → World → Prop} {E : Prop} (s x : Operand) (base : Nat) (A src : Option Addr) (n cap m c B : Nat) (xs ys : List Int)
    (hw : Region.wanted o (yielded ops a.tmps) = true) (ho : o.op = .call { callee := .builtin .append, args := #[s, x], argTypes := #[23, 23] }) (hs : a.eval s = .slice A n cap) (hx : a.eval x = .slice src m c)
    (hg : Grow .i64 3 w base A n cap xs) (hy : Ints .i64 w B src ys) (hm : ys.length = m) (hn : n + m < 1099511627776) (hb : base ≤ w.heap.size)
    (h : ∀ a' cap' w', Grow .i64 3 w' base a' (n + m) cap' (xs ++ ys) → Below base w w' → K (a.put o.dst (.slice a' (n + m) cap')) w') : if Region.wanted o (yielded ops a.tmps) = true then Oper.wp Tryd.prog o a w K Q else E := by
  rw [if_pos hw]
  obtain ⟨v, w', hr, a', cap', rfl, h1, h2, _⟩ := run_appendA w o.type base A src n cap m c B xs ys hg hy hm hn hb
  exact Lib.wp_append_run w s x _ _ ho _ _ hs hx _ _ hr (h a' cap' w' h1 h2)
end
theorem Ints.dropB {k : IntKind} {w : World} {B b off m : Nat} {xs : List Int} (h : Ints k w B (some ⟨b, off, none⟩) xs) : Ints k w B (some ⟨b, off + m, none⟩) (xs.drop m) := fun hne => by
  have hne' : xs ≠ [] := by intro e; subst e; simp at hne
  obtain ⟨b', off', e, hb, hc⟩ := h hne'
  injection e with e
  injection e with e1 e2
  subst e1 e2
  refine ⟨b, off + m, rfl, hb, fun i hi => ?_⟩
  rw [List.length_drop] at hi
  rw [Nat.add_assoc, hc (m + i) (by omega)]
  simp [el, List.getElem?_drop]
theorem encB_ne {xs : List Int} (h : encB xs ≠ []) : blkOk 4 xs = true ∧ 4 ≤ xs.length := by
  cases hok : blkOk 4 xs
  · exact absurd (encB_no hok) h
  · refine ⟨rfl, ?_⟩
    rcases Nat.lt_or_ge xs.length 4 with hlt | hge
    · have : xs.length / 4 = 0 := by omega
      exact absurd (by rw [encB_yes hok, this]; rfl) h
    · exact hge
set_option maxRecDepth 100000 in
set_option maxHeartbeats 4000000 in
theorem walkEncodeBlocks (a : Option Addr) (c : Nat) (ds : List Int) (w : World) (hx : Ints .u8 w w.heap.size a ds) (hw : ∀ n ∈ ds, (Lit.int .u8 n).wf = true) (hc : ds.length ≤ c) (hcm : c ≤ maxLen) (hS : SynTab w) (hC : CorTab w) :
    Calls Tryd.prog 6 #[.slice a ds.length c] w fun e w' => e = .returned (.bool true) ∧ Below w.heap.size w w' := by
  have hb := isByte_of_wf hw
  have HT := Lib.hid hS
  have HC := Lib.hid hC
  clear hw hS hC
  by_cases hl : ds.length ≤ 1048576
  · go_enter Tryd.func6, Tryd.ntmps6
    go_wp2_with fail
    refine (drawEncodeBlocks_any a c ds w hx hb hc hcm).mono ?_
    rintro e w1 ⟨xs, a1, c1, rfl, ⟨l1, l2, l3⟩, i1, b1⟩
    have I1 := Lib.hid i1
    have B1 := Lib.hid b1
    have L1 := Lib.hid (show xs.length ≤ maxLen from Nat.le_trans l2 l3)
    clear hx hb hc hcm i1 b1 l3
    obtain ⟨X, hX⟩ : ∃ X, X = encB xs := ⟨_, rfl⟩
    have HXe := Lib.hid hX
    have hXl : X.length ≤ 896 := by rw [hX]; exact encB_len xs
    have z3 : decide (X = X) = true := by simp
    clear hX
    go_wp2_with fail
    refine (encodeBlocks_any a1 c1 xs w1 I1.out l2).mono ?_
    rw [← HXe.out]
    rintro e w2 ⟨v2, cv2, rfl, r2, o2, b2⟩
    have V2 := Lib.hid (own_of_list o2).ints
    have R2 := Lib.hid r2
    have I2 := Lib.hid (I1.out.next b2)
    have B2 := Lib.hid (Below.next B1.out (Nat.le_refl _) b2)
    clear o2 b2 I1 B1 r2
    go_wp2_with fail
    refine (specEncodeBlocks_any a1 c1 xs w2 I2.out l2 L1.out).mono ?_
    rw [← HXe.out]
    rintro e w3 ⟨v3, cv3, rfl, _, o3, b3⟩
    have U3 := Lib.hid (own_of_list o3).ints
    have V3 := Lib.hid (V2.out.next b3)
    have I3 := Lib.hid (I2.out.next b3)
    have B3 := Lib.hid (Below.next B2.out (Nat.le_refl _) b3)
    clear o3 b3 V2 I2 B2
    go_wp2_with fail
    refine (sameInts_any v2 v3 cv2 cv3 w3.heap.size w3.heap.size X X w3 V3.out U3.out (by omega)).mono ?_
    rintro e w4 ⟨rfl, n4, rfl⟩
    have B4 := Lib.hid (below_drewN B3.out n4)
    have V4 : Hid (Ints .i64 (w3.drewN n4) (w3.drewN n4).heap.size v2 X) := V3.out
    have I4 : Hid (Ints .i64 (w3.drewN n4) (w3.drewN n4).heap.size a1 xs) := I3.out
    clear V3 U3 I3 B3 z3
    generalize w3.drewN n4 = w5 at *
    by_cases hX0 : X = []
    · subst hX0
      go_wp2_with fail
      refine (alive_any w5).mono ?_
      rintro e w6 ⟨rfl, b6⟩
      have B6 := Lib.hid (Below.next B4.out (Nat.le_refl _) b6)
      clear b6
      go_wp2
      go_ret
      exact ⟨rfl, B6.out⟩
    · obtain ⟨hok, h4⟩ := encB_ne (xs := xs) (by rw [← HXe.out]; exact hX0)
      obtain ⟨k1, k2, k3, k4⟩ := back_ok hok
      rw [← HXe.out] at k1 k2 k3 k4
      have hX1 : ((X.length : Int) == 0) = false := by rw [beq_eq_false_iff_ne]; omega
      obtain ⟨K, hK⟩ : ∃ K, K = xs.length / 8 := ⟨_, rfl⟩
      have h4K : 4 * K ≤ xs.length := by omega
      obtain ⟨h, hh⟩ : ∃ h, h = 4 * K := ⟨_, rfl⟩
      have hpar := enc_parts hok h4K
      rw [← hh, ← HXe.out] at hpar
      have hhl : h < xs.length := by omega
      have h8 := decodeBlocks_any v2 cv2 X w5 V4.out R2.out.1 (HT.out.next B4.out) (HC.out.next B4.out)
      unfold DecBPost at h8
      rw [k2, k3] at h8
      have H8 := Lib.hid h8
      have hdiv : (xs.length : Int) / 8 * 4 = (h : Int) := by omega
      have HM2 : Hid (IntKind.i64.wrap (4 * (X.length : Int)) = IntKind.i64.wrap (7 * (xs.length : Int))) := by rw [show 4 * (X.length : Int) = 7 * (xs.length : Int) by omega]; exact rfl
      have z4 : decide (xs = xs) = true := by simp
      have z5 : decide (X = X) = true := by simp
      have hc1 : ¬ c1 = h := by omega
      have hhc : h ≤ c1 := by omega
      have hhx : h ≤ xs.length := by omega
      obtain ⟨b, off, rfl, hbb, _⟩ := I4.out (by intro e; rw [e] at hhl; simp at hhl)
      have HPar := Lib.hid hpar
      have Hh := Lib.hid hhl
      clear hok k1 k2 k3 k4 hK hh hpar h8 hX0 h4K h4
      go_wp2_with fail
      refine H8.out.mono ?_
      rintro e w6 ⟨v6, cv6, rfl, _, o6, b6⟩
      have D6 := Lib.hid (own_of_list o6).ints
      have V6 := Lib.hid (V4.out.next b6)
      have I6 := Lib.hid (I4.out.next b6)
      have B6 := Lib.hid (Below.next B4.out (Nat.le_refl _) b6)
      clear o6 b6 H8 V4 I4 B4
      have hsame := sameInts_any v6 (some ⟨b, off, none⟩) cv6 c1 w6.heap.size w6.heap.size xs xs w6.drew D6.out I6.out (by omega)
      have HSame := Lib.hid hsame
      clear hsame
      go_wp2_with fail
      · refine wp_region_any (by kernel_rfl) ?_
        change wpAny _ _ _ _ _ _ _ (World.drew _)
        clear hdiv
        refine wpAny_take (i := 0) (v := ?v0) rfl (by kernel_rfl) (by kernel_rfl) (by kernel_rfl) (fun _ _ _ h => h) (Or.inl ⟨by kernel_rfl, ?h0⟩) ?_
        case h0 => intro w; go_simp; try with_reducible rfl
        go_simp
        refine wpAny_take (i := 1) (v := ?v1) rfl (by kernel_rfl) (by kernel_rfl) (by kernel_rfl) (fun _ _ _ h => h) (Or.inl ⟨by kernel_rfl, ?h1⟩) ?_
        case h1 => intro w; go_simp; try with_reducible rfl
        go_simp
        refine wpAny_take (i := 2) (v := ?v2) rfl (by kernel_rfl) (by kernel_rfl) (by kernel_rfl) (fun _ _ _ h => h) (Or.inl ⟨by kernel_rfl, ?h2⟩) ?_
        case h2 => intro w; go_simp; try with_reducible rfl
        go_simp
        refine wpAny_take (i := 3) (v := ?v3) rfl (by kernel_rfl) (by kernel_rfl) (by kernel_rfl) (fun _ _ _ h => h) (Or.inl ⟨by kernel_rfl, ?h3⟩) ?_
        case h3 => intro w; go_simp; try with_reducible rfl
        go_simp
        refine wpAny_take (i := 4) (v := ?v4) rfl (by kernel_rfl) (by kernel_rfl) (by kernel_rfl) (fun _ _ _ h => h) (Or.inl ⟨by kernel_rfl, ?h4⟩) ?_
        case h4 => intro w; go_simp; try with_reducible rfl
        go_simp
        refine wpAny_ready (rs := [5]) (by kernel_rfl) (by simp) (AllReady.cons rfl (fun K hK => ?_) AllReady.nil)
        go_simp
        refine HSame.out.mono ?_
        rintro e w7 ⟨rfl, n7, hw7⟩
        have B7 : Hid (Below w.heap.size w w7) := by rw [hw7]; exact below_drewN B6.out.drew n7
        have V7 : Hid (Ints .i64 w7 w7.heap.size v2 X) := by rw [hw7]; exact V6.out
        have I7 : Hid (Ints .i64 w7 w7.heap.size (some ⟨b, off, none⟩) xs) := by rw [hw7]; exact I6.out
        clear HSame V6 I6 B6 D6 hw7
        go_simp
        refine hK _ _ ?_
        clear hK K
        refine wpAny_take (i := 6) (v := ?v6) rfl (by kernel_rfl) (by kernel_rfl) (by kernel_rfl) (fun _ _ _ h => h) (Or.inl ⟨by kernel_rfl, ?h6⟩) ?_
        case h6 => intro w; go_simp; try with_reducible rfl
        go_simp
        refine wpAny_take (i := 7) (v := ?v7) rfl (by kernel_rfl) (by kernel_rfl) (by kernel_rfl) (fun _ _ _ h => h) (Or.inl ⟨by kernel_rfl, ?h7⟩) ?_
        case h7 => intro w; go_simp; try with_reducible rfl
        go_simp
        refine wpAny_take (i := 8) (v := ?v8) rfl (by kernel_rfl) (by kernel_rfl) (by kernel_rfl) (fun _ _ _ h => h) (Or.inl ⟨by kernel_rfl, ?h8⟩) ?_
        case h8 => intro w; go_simp; try with_reducible rfl
        go_simp
        refine wpAny_take (i := 9) (v := ?v9) rfl (by kernel_rfl) (by kernel_rfl) (by kernel_rfl) (fun _ _ _ h => h) (Or.inl ⟨by kernel_rfl, ?h9⟩) ?_
        case h9 => intro w; go_simp; try with_reducible rfl
        go_simp
        refine wpAny_take (i := 10) (v := ?v10) rfl (by kernel_rfl) (by kernel_rfl) (by kernel_rfl) (fun _ _ _ h => h) (Or.inl ⟨by kernel_rfl, ?h10⟩) ?_
        case h10 => intro w; go_simp; try with_reducible rfl
        go_simp
        refine wpAny_take (i := 11) (v := ?v11) rfl (by kernel_rfl) (by kernel_rfl) (by kernel_rfl) (fun _ _ _ h => h) (Or.inl ⟨by kernel_rfl, ?h11⟩) ?_
        case h11 => intro w; go_simp; try with_reducible rfl
        go_simp
        refine wpAny_take (i := 12) (v := ?v12) rfl (by kernel_rfl) (by kernel_rfl) (by kernel_rfl) (fun _ _ _ h => h) (Or.inl ⟨by kernel_rfl, ?h12⟩) ?_
        case h12 => intro w; go_simp; try with_reducible rfl
        go_simp
        refine wpAny_take (i := 13) (v := ?v13) rfl (by kernel_rfl) (by kernel_rfl) (by kernel_rfl) (fun _ _ _ h => h) (Or.inl ⟨by kernel_rfl, ?h13⟩) ?_
        case h13 => intro w; go_simp; try with_reducible rfl
        go_simp
        have hm2 := HM2.out
        refine wpAny_take (i := 14) (v := ?v14) rfl (by kernel_rfl) (by kernel_rfl) (by kernel_rfl) (fun _ _ _ h => h) (Or.inl ⟨by kernel_rfl, ?h14⟩) ?_
        case h14 => intro w; go_simp; try with_reducible rfl
        go_simp
        clear hm2 HM2
        refine wpAny_take (i := 15) (v := ?v15) rfl (by kernel_rfl) (by kernel_rfl) (by kernel_rfl) (fun _ _ _ h => h) (Or.inl ⟨by kernel_rfl, ?h15⟩) ?_
        case h15 => intro w; go_simp; try with_reducible rfl
        go_simp
        refine wpAny_take (i := 16) (v := ?v16) rfl (by kernel_rfl) (by kernel_rfl) (by kernel_rfl) (fun _ _ _ h => h) (Or.inl ⟨by kernel_rfl, ?h16⟩) ?_
        case h16 => intro w; go_simp; try with_reducible rfl
        go_simp
        refine wpAny_take (i := 17) (v := ?v17) rfl (by kernel_rfl) (by kernel_rfl) (by kernel_rfl) (fun _ _ _ h => h) (Or.inl ⟨by kernel_rfl, ?h17⟩) ?_
        case h17 => intro w; go_simp; try with_reducible rfl
        go_simp
        refine wpAny_take (i := 18) (v := ?v18) rfl (by kernel_rfl) (by kernel_rfl) (by kernel_rfl) (fun _ _ _ h => h) (Or.inl ⟨by kernel_rfl, ?h18⟩) ?_
        case h18 => intro w; go_simp; try with_reducible rfl
        go_simp
        refine wpAny_take (i := 19) (v := ?v19) rfl (by kernel_rfl) (by kernel_rfl) (by kernel_rfl) (fun _ _ _ h => h) (Or.inl ⟨by kernel_rfl, ?h19⟩) ?_
        case h19 => intro w; go_simp; try with_reducible rfl
        go_simp
        refine wpAny_take (i := 21) (v := ?v21) rfl (by kernel_rfl) (by kernel_rfl) (by kernel_rfl) (fun _ _ _ h => h) (Or.inl ⟨by kernel_rfl, ?h21⟩) ?_
        case h21 => intro w; go_simp; try with_reducible rfl
        go_simp
        refine wpAny_take (i := 22) (v := ?v22) rfl (by kernel_rfl) (by kernel_rfl) (by kernel_rfl) (fun _ _ _ h => h) (Or.inl ⟨by kernel_rfl, ?h22⟩) ?_
        case h22 => intro w; go_simp; try with_reducible rfl
        go_simp
        refine wpAny_take (i := 23) (v := ?v23) rfl (by kernel_rfl) (by kernel_rfl) (by kernel_rfl) (fun _ _ _ h => h) (Or.inl ⟨by kernel_rfl, ?h23⟩) ?_
        case h23 => intro w; go_simp; try with_reducible rfl
        go_simp
        refine wpAny_take (i := 26) (v := ?v26) rfl (by kernel_rfl) (by kernel_rfl) (by kernel_rfl) (fun _ _ _ h => h) (Or.inl ⟨by kernel_rfl, ?h26⟩) ?_
        case h26 => intro w; go_simp; try with_reducible rfl
        go_simp
        try rw [if_neg hc1]
        have hA := encodeBlocks_grow (some ⟨b, off, none⟩) c1 (xs.take h) w7 I7.out.take (by rw [List.length_take]; omega)
        rw [show (xs.take h).length = h by rw [List.length_take]; have := Hh.out; omega] at hA
        have HA := Lib.hid hA
        clear hA
        refine wpAny_ready (rs := [20]) (by kernel_rfl) (by simp) (AllReady.cons rfl (fun K hK => ?_) AllReady.nil)
        go_simp
        refine HA.out.mono ?_
        rintro e w8 ⟨v8, n8, cv8, rfl, g8, b8⟩
        have hn8 : n8 ≤ 896 := by rw [← g8.len]; exact encB_len _
        have G8 := Lib.hid g8
        have V8 := Lib.hid (V7.out.below b8)
        have I8 := Lib.hid (I7.out.next b8)
        have B8 := Lib.hid (Below.next B7.out (Nat.le_refl _) b8)
        have s78 : w7.heap.size ≤ w8.heap.size := b8.size
        have s07 : w.heap.size ≤ w7.heap.size := B7.out.size
        clear g8 b8 HA V7 I7 B7
        go_simp
        refine hK _ _ ?_
        clear hK K
        have hD := encodeBlocks_any (some ⟨b, off + h, none⟩) (c1 - h) (xs.drop h) w8 I8.out.dropB (by rw [List.length_drop]; omega)
        rw [List.length_drop] at hD
        have HD := Lib.hid hD
        clear hD
        refine wpAny_ready (rs := [24]) (by kernel_rfl) (by simp) (AllReady.cons rfl (fun K hK => ?_) AllReady.nil)
        go_simp
        refine HD.out.mono ?_
        rintro e w9 ⟨v9, cv9, rfl, _, o9, b9⟩
        have hn9 : (encB (xs.drop h)).length ≤ 896 := encB_len _
        have E9 := Lib.hid (own_of_list o9).ints
        have G9 := Lib.hid (G8.out.below b9)
        have V9 := Lib.hid (V8.out.below (b9.mono s78))
        have B9 := Lib.hid (Below.next B8.out (Nat.le_refl _) b9)
        have s79 : w7.heap.size ≤ w9.heap.size := by have := b9.size; omega
        clear o9 b9 HD V8 I8 B8 G8
        go_simp
        refine hK _ _ ?_
        clear hK K
        refine wpAny_ready (rs := [25]) (by kernel_rfl) (by simp) (AllReady.cons rfl (fun K hK => ?_) AllReady.nil)
        refine step_appendA (.tmp 53) (.tmp 57) w7.heap.size v8 v9 n8 cv8 (encB (xs.drop h)).length cv9 w9.heap.size (encB (xs.take h)) (encB (xs.drop h)) rfl rfl rfl rfl G9.out E9.out rfl (by omega) s79 ?_
        intro a10 cap10 w10 hg10 hb10
        rw [HPar.out] at hg10
        have hl10 := hg10.len
        have E10 := Lib.hid hg10.ints
        have V10 := Lib.hid (V9.out.below hb10)
        have B10 := Lib.hid (B9.out.trans (hb10.mono s07))
        have hn10 : n8 + (encB (xs.drop h)).length = X.length := by rw [← hl10]
        have hs10 := sameInts_any a10 v2 cap10 cv2 w10.heap.size w7.heap.size X X w10 E10.out V10.out (by omega)
        have HS10 := Lib.hid hs10
        clear hs10 hl10 hg10 hb10 G9 E9 V9 B9
        go_simp
        try rw [hn10]
        refine hK _ _ ?_
        clear hK K
        refine wpAny_ready (rs := [27]) (by kernel_rfl) (by simp) (AllReady.cons rfl (fun K hK => ?_) AllReady.nil)
        go_simp
        refine HS10.out.mono ?_
        rintro e w11 ⟨rfl, n11, hw11⟩
        have B11 : Hid (Below w.heap.size w w11) := by rw [hw11]; exact below_drewN B10.out n11
        clear HS10 B10 E10 V10 hw11
        go_simp
        refine hK _ _ ?_
        clear hK K
        refine wpAny_take (i := 28) (v := ?v28) rfl (by kernel_rfl) (by kernel_rfl) (by kernel_rfl) (fun _ _ _ h => h) (Or.inl ⟨by kernel_rfl, ?h28⟩) ?_
        case h28 => intro w; go_simp; try with_reducible rfl
        go_simp
        refine wpAny_take (i := 29) (v := ?v29) rfl (by kernel_rfl) (by kernel_rfl) (by kernel_rfl) (fun _ _ _ h => h) (Or.inl ⟨by kernel_rfl, ?h29⟩) ?_
        case h29 => intro w; go_simp; try with_reducible rfl
        go_simp
        refine wpAny_done (by kernel_rfl) ?_ _
        go_simp
        go_wp2
        go_ret
        exact ⟨rfl, B11.out⟩
  · go_enter Tryd.func6, Tryd.ntmps6
    go_wp2
    go_ret
    exact ⟨rfl, Below.refl _ _⟩
end Go.Proofs.YtflplihhakepfaaDoor
