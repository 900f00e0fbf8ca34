/-
  What the model of EncodeWord answers, for every list: it divides by the generator. Condition: a list that can be read.
-/
import Derived.Test.YtkeeijkjemcbcaaDoorWrd11
namespace Go.Proofs.YtkeeijkjemcbcaaDoor
open Go.RowKit

/-- The rest of the division within a step, and after k steps. -/
def divM (r : Nat → Nat) (k f : Nat) : Nat → Nat → Nat
  | 0 => r
  | j + 1 => upd (divM r k f j) (k + j) (fmul f (g5 j))
def divR (d : Nat → Nat) : Nat → Nat → Nat
  | 0 => fun i => if i < 11 then d i else 0
  | k + 1 => divM (divR d k) k (divR d k k) 5
theorem g5_lt (j : Nat) : g5 j < 16 := by unfold g5; split; omega; exact gen6_lt _
theorem divM_lt {r : Nat → Nat} {k f : Nat} (hr : Lt16 r) (hf : f < 16) : ∀ j, Lt16 (divM r k f j)
  | 0 => hr
  | j + 1 => upd_lt (divM_lt hr hf j) (fmul_lt hf (g5_lt j))
theorem divR_lt {d : Nat → Nat} (hd : Lt16 d) : ∀ k, Lt16 (divR d k)
  | 0 => fun i => by show (if i < 11 then d i else 0) < 16; split; exact hd i; omega
  | k + 1 => divM_lt (divR_lt hd k) (divR_lt hd k k) 5
theorem div_sum {t k f : Nat} (ht : t < 4) (hk : k < 11) (hf : f < 16) :
    fmul (fmul f (g5 0)) (fpow (loc (k + 0)) (t + 1)) ^^^ fmul (fmul f (g5 1)) (fpow (loc (k + 1)) (t + 1)) ^^^ fmul (fmul f (g5 2)) (fpow (loc (k + 2)) (t + 1)) ^^^ fmul (fmul f (g5 3)) (fpow (loc (k + 3)) (t + 1)) ^^^ fmul (fmul f (g5 4)) (fpow (loc (k + 4)) (t + 1)) = 0 := by
  have : ∀ t, t < 4 → ∀ k, k < 11 → ∀ f, f < 16 → fmul (fmul f (g5 0)) (fpow (loc (k + 0)) (t + 1)) ^^^ fmul (fmul f (g5 1)) (fpow (loc (k + 1)) (t + 1)) ^^^ fmul (fmul f (g5 2)) (fpow (loc (k + 2)) (t + 1)) ^^^ fmul (fmul f (g5 3)) (fpow (loc (k + 3)) (t + 1)) ^^^ fmul (fmul f (g5 4)) (fpow (loc (k + 4)) (t + 1)) = 0 := by decide +kernel
  exact this t ht k hk f hf
theorem divM_syn {r : Nat → Nat} {k f t : Nat} (ht : t < 4) (hr : Lt16 r) (hk : k < 11) (hf : f < 16) : syn6 (divM r k f 5) t = syn6 r t := by
  have hl := fun j => divM_lt (k := k) hr hf j
  have hm := fun j => fmul_lt hf (g5_lt j)
  have h0 := div_sum ht hk hf
  have s := fun j (hj : j < 5) => syn6_upd (m := k + j) ht (hl j) (hm j) (by omega)
  show syn6 (upd (divM r k f 4) (k + 4) (fmul f (g5 4))) t = _
  rw [s 4 (by omega)]
  show syn6 (upd (divM r k f 3) (k + 3) (fmul f (g5 3))) t ^^^ _ = _
  rw [s 3 (by omega)]
  show syn6 (upd (divM r k f 2) (k + 2) (fmul f (g5 2))) t ^^^ _ ^^^ _ = _
  rw [s 2 (by omega)]
  show syn6 (upd (divM r k f 1) (k + 1) (fmul f (g5 1))) t ^^^ _ ^^^ _ ^^^ _ = _
  rw [s 1 (by omega)]
  show syn6 (upd (divM r k f 0) (k + 0) (fmul f (g5 0))) t ^^^ _ ^^^ _ ^^^ _ ^^^ _ = _
  rw [s 0 (by omega)]
  show syn6 r t ^^^ _ ^^^ _ ^^^ _ ^^^ _ ^^^ _ = _
  simp only [Nat.xor_assoc] at h0 ⊢
  rw [h0, Nat.xor_zero]
theorem divR_syn {d : Nat → Nat} {t : Nat} (ht : t < 4) (hd : Lt16 d) : ∀ k, k ≤ 11 → syn6 (divR d k) t = syn6 (divR d 0) t
  | 0, _ => rfl
  | k + 1, hk => (divM_syn ht (divR_lt hd k) (by omega) (divR_lt hd k k)).trans (divR_syn ht hd k (by omega))
theorem divM_low (r : Nat → Nat) (k f : Nat) {i : Nat} (hi : i < k) : ∀ j, divM r k f j i = r i
  | 0 => rfl
  | j + 1 => by rw [divM, upd_ne (by omega), divM_low r k f hi j]
theorem divM_at (r : Nat → Nat) (k f : Nat) (hf : f < 16) : ∀ j, divM r k f (j + 1) k = r k ^^^ f
  | 0 => by rw [divM, Nat.add_zero, upd_at, divM]; rw [show g5 0 = 1 from rfl, fmul_one hf]
  | j + 1 => by rw [divM, upd_ne (by omega), divM_at r k f hf j]
theorem divR_zero {d : Nat → Nat} (hd : Lt16 d) : ∀ k i, i < k → divR d k i = 0
  | 0, i, h => absurd h (by omega)
  | k + 1, i, h => by
    show divM (divR d k) k (divR d k k) 5 i = 0
    by_cases he : i = k
    · subst he; rw [divM_at _ _ _ (divR_lt hd i i), Nat.xor_self]
    · rw [divM_low _ _ _ (by omega)]; exact divR_zero hd k i (by omega)
theorem div_enc {d : Nat → Nat} (hd : Lt16 d) {i : Nat} (hi : i < 15) : (if i < 11 then d i else divR d 11 i) = enc6 d i := by
  have hr := divR_lt hd 11
  have h0 := divR_lt hd 0
  have hz : Zero6 (fun i => divR d 0 i ^^^ divR d 11 i) := fun t ht => by rw [syn6_xor h0 hr, divR_syn ht hd 11 (Nat.le_refl _), Nat.xor_self]
  have hdat : ∀ i, i < 11 → (fun i => divR d 0 i ^^^ divR d 11 i) i = d i := fun i hi => by
    show (if i < 11 then d i else 0) ^^^ divR d 11 i = d i
    rw [divR_zero hd 11 i hi, if_pos hi, Nat.xor_zero]
  rw [← enc6_uniq (fun i => xor_lt (h0 i) (hr i)) hd hz hdat i hi]
  show _ = (if i < 11 then d i else 0) ^^^ divR d 11 i
  by_cases h : i < 11
  · rw [if_pos h, if_pos h, divR_zero hd 11 i h, Nat.xor_zero]
  · rw [if_neg h, if_neg h, Nat.zero_xor]
theorem rest_start {xs : List Int} (h : wok 11 xs = true) : xs ++ [((0 : Nat) : Int), ((0 : Nat) : Int), ((0 : Nat) : Int), ((0 : Nat) : Int)] = ofN (divR (co xs) 0) 15 := by
  obtain ⟨h1, h2⟩ := wok_parts h
  refine list_el (by simp [ofN_length, h1]) fun i hi => ?_
  have hi15 : i < 15 := by simp [h1] at hi; omega
  rw [ofN_el hi15]
  show _ = ((if i < 11 then co xs i else 0 : Nat) : Int)
  by_cases hlt : i < 11
  · rw [if_pos hlt, ← (co_el h2 (by omega)).1]
    simp [el, List.getElem?_append_left (show i < xs.length by omega)]
  · rw [if_neg hlt]
    have : i = 11 ∨ i = 12 ∨ i = 13 ∨ i = 14 := by omega
    rcases this with rfl | rfl | rfl | rfl <;> simp [el, h1]
theorem rest_end {xs : List Int} (h : wok 11 xs = true) : xs ++ (ofN (divR (co xs) 11) 15).drop 11 = encL xs := by
  obtain ⟨h1, h2⟩ := wok_parts h
  rw [encL_yes h]
  refine list_el (by simp [ofN_length, h1]) fun i hi => ?_
  have hi15 : i < 15 := by simp [h1, ofN_length] at hi; omega
  rw [ofN_el hi15, ← div_enc (wok_lt h) hi15]
  by_cases hlt : i < 11
  · rw [if_pos hlt, ← (co_el h2 (by omega)).1]
    simp [el, List.getElem?_append_left (show i < xs.length by omega)]
  · rw [if_neg hlt, ← ofN_el (c := divR (co xs) 11) hi15]
    simp [el, List.getElem?_append_right (show xs.length ≤ i by omega), h1, show 11 + (i - 11) = i by omega]
theorem Ints.cutC {k : IntKind} {w : World} {B b off m : Nat} {xs : List Int} (h : Ints k w B (some ⟨b, off, none⟩) xs) : Ints k w B (some ⟨b, off + m, none⟩) (xs.drop m) := fun hne => by
  have hne' : xs ≠ [] := by intro e; subst e; simp at hne
  obtain ⟨b', off', e, hb, hc⟩ := h hne'
  injection e with e
  injection e with e1 e2
  subst e1 e2
  refine ⟨b, off + m, rfl, hb, fun i hi => ?_⟩
  rw [List.length_drop] at hi
  rw [Nat.add_assoc, hc (m + i) (by omega)]
  simp [el, List.getElem?_drop]
section
variable {w : World} {ops : Array Oper} {o : Oper} {a : Act} {Q : Exit → Act → World → Prop}
theorem step_appendC {K : Act → World → Prop} {E : Prop} (s x : Operand) (base : Nat) (A src : Option Addr) (n cap m c B : Nat) (xs ys : List Int)
    (hw : Region.wanted o (yielded ops a.tmps) = true) (ho : o.op = .call { callee := .builtin .append, args := #[s, x], argTypes := #[23, 23] }) (hs : a.eval s = .slice A n cap) (hx : a.eval x = .slice src m c)
    (hg : Grow .i64 3 w base A n cap xs) (hy : Ints .i64 w B src ys) (hm : ys.length = m) (hn : n + m < 1099511627776) (hb : base ≤ w.heap.size)
    (h : ∀ a' cap' w', Grow .i64 3 w' base a' (n + m) cap' (xs ++ ys) → Below base w w' → K (a.put o.dst (.slice a' (n + m) cap')) w') : if Region.wanted o (yielded ops a.tmps) = true then Oper.wp Tryd.prog o a w K Q else E := by
  rw [if_pos hw]
  obtain ⟨v, w', hr, a', cap', rfl, h1, h2, _⟩ := run_appendA w o.type base A src n cap m c B xs ys hg hy hm hn hb
  exact Lib.wp_append_run w s x _ _ ho _ _ hs hx _ _ hr (h a' cap' w' h1 h2)
end
theorem l6Symbols_11 (a : Option Addr) (c B : Nat) (xs : List Int) (w : World) (b : Bool) (hx : Ints .i64 w B a xs) (hl : xs.length ≤ 1048576) (h : wok 11 xs = b) :
    Calls Tryd.prog 37 #[.slice a xs.length c, .int .i64 11] w fun e w' => e = .returned (.bool b) ∧ w = w' := by
  subst h; exact l6Symbols_any a c B 11 xs w hx hl
set_option maxHeartbeats 4000000 in
theorem specEncodeWord_any (a : Option Addr) (c : Nat) (xs : List Int) (w : World) (hx : Ints .i64 w w.heap.size a xs) (hl : xs.length ≤ 1048576) :
    Calls Tryd.prog 16 #[.slice a xs.length c] w (NewL (encL xs) w) := by
  cases hk : wok 11 xs
  · have HV := Lib.hid (l6Symbols_11 a c w.heap.size xs w false hx hl hk)
    have HE := Lib.hid (encL_no hk)
    clear hx hk
    go_enter Tryd.func16, Tryd.ntmps16
    go_wp2_with (go_at_call 37; refine HV.out.mono ?_; rintro e w' ⟨rfl, rfl⟩)
    go_ret
    rw [HE.out]
    exact newL_nil
  · have HV := Lib.hid (l6Symbols_11 a c w.heap.size xs w true hx hl hk)
    have HX := Lib.hid hx
    have HK := Lib.hid hk
    have hlen := (wok_parts hk).1
    have HL := Lib.hid hlen
    have H16 := Lib.hid (wok_lt hk)
    have HRS := Lib.hid (rest_start hk)
    have HRE := Lib.hid (rest_end hk)
    have hl20 : xs.length ≤ 20 := by omega
    have hl0 : 0 < xs.length := by omega
    clear hx hk hlen
    go_enter Tryd.func16, Tryd.ntmps16
    go_wp2_with (go_at_call 37; refine HV.out.mono ?_; rintro e w' ⟨rfl, rfl⟩)
    refine (l6Generator_any w).mono ?_
    rintro e V0 ⟨ga, gn, gcap, rfl, hg, hb⟩
    obtain ⟨gb, rfl, hgb⟩ := hg.addr0 (grow_some hg (by rw [ofN_length]; omega))
    obtain rfl : gn = 5 := by have := hg.len; rw [ofN_length] at this; exact this.symm
    have BV := Lib.hid hb
    have IG := Lib.hid hg.ints
    have IX := Lib.hid (HX.out.next hb)
    have IXA := Lib.hid (fun o => IX.out.below (below_alloc V0 o))
    have BXA := Lib.hid (fun o => below_alloc V0 o)
    clear hg hb
    go_wp2_with (first
      | (at_builtin; refine wpList_appendA (.tmp 13) (.tmp 14) V0.heap.size (some ⟨V0.heap.size, 0, none⟩) a 0 0 xs.length c V0.heap.size [] xs rfl rfl rfl rfl (Grow.lit0 _ _ _ _ (Nat.le_refl _)) (IXA.out _) rfl (by omega) (by simp) ?_; intro a4 cap4 w4 hg4 hb4 _; rw [Nat.zero_add, List.nil_append] at hg4; have HG4 := Lib.hid hg4; have HB4 := Lib.hid ((BXA.out _).trans hb4); have hs4 : V0.heap.size ≤ w4.heap.size := HB4.out.size; clear hg4 hb4)
      | (at_builtin; refine wpList_appendA (.tmp 15) (.tmp 16) V0.heap.size a4 (some ⟨w4.heap.size, 0, none⟩) xs.length cap4 4 4 (w4.alloc (.cells #[.int .i64 ((0 : Nat) : Int), .int .i64 ((0 : Nat) : Int), .int .i64 ((0 : Nat) : Int), .int .i64 ((0 : Nat) : Int)] 3)).heap.size xs [((0 : Nat) : Int), ((0 : Nat) : Int), ((0 : Nat) : Int), ((0 : Nat) : Int)] rfl rfl rfl rfl (HG4.out.alloc _) (Grow.lit4 w4 w4.heap.size 0 0 0 0 (Nat.le_refl _)).ints rfl (by omega) (by simp; omega) ?_; intro a5 cap5 w5 hg5 hb5 _; rw [HRS.out] at hg5; have HG5 := Lib.hid hg5; have HB5 := Lib.hid ((HB4.out.alloc hs4 _).trans hb5); clear hg5 hb5))
    obtain ⟨rb, rfl, hrb⟩ := HG5.out.addr0 (grow_some HG5.out (by rw [ofN_length]; omega))
    have S5 : Hid (WS V0 w5 rb (xs.length + 4) cap5 (divR (co xs) 0)) := ⟨HG5.out, HB5.out⟩
    clear HG5 HB5 HG4 HB4 IXA BXA
    generalize xs.length + 4 = n at *
    obtain rfl : n = 15 := S5.out.len
    have hcap : 15 ≤ cap5 := S5.out.1.room.1
    go_loopw [5] (fun i wr => ∃ k : Nat, k ≤ 11 ∧ i = .int .i64 k ∧ WS V0 wr rb 15 cap5 (divR (co xs) k)) (fun i _ => 11 - (intOf i).toNat)
    case atStart => exact ⟨0, by omega, rfl, S5.out⟩
    case round =>
      obtain ⟨k, hk, rfl, hs⟩ := hrel
      rename World => W0
      have S6 := Lib.hid hs
      clear S5
      by_cases hlt : k < 11
      · obtain ⟨c0, f0⟩ := hs.cell (i := k) (by omega)
        have hkb : decide ((k : Int) < 11) = true := by simp; omega
        have hf16 := divR_lt H16.out k k
        obtain ⟨f, hf⟩ : ∃ f, f = divR (co xs) k k := ⟨_, rfl⟩
        rw [← hf] at c0 hf16
        have HF := Lib.hid hf
        clear hs hf
        go_wp2
        clear c0 f0 hkb
        go_loopw [7] (fun j wr => ∃ m : Nat, m ≤ 5 ∧ j = .int .i64 m ∧ WS V0 wr rb 15 cap5 (divM (divR (co xs) k) k f m)) (fun j _ => 5 - (intOf j).toNat)
        case atStart => exact ⟨0, by omega, rfl, S6.out⟩
        case round =>
          obtain ⟨m, hm, rfl, hs⟩ := hrel
          by_cases hltm : m < 5
          · have hd := divM_lt (k := k) (divR_lt H16.out k) hf16 m
            have hd16 := hd (k + m)
            obtain ⟨cR, fR⟩ := hs.cell (i := k + m) (by omega)
            have cG := ((IG.out.below hs.2).at_ (i := m) (by rw [ofN_length]; omega))
            obtain ⟨_, _, e', _, cG⟩ := cG
            injection e' with e'
            injection e' with e1 e2
            subst e1 e2
            rw [ofN_el hltm, Nat.zero_add] at cG
            have hg16 := g5_lt m
            have HM := Lib.hid (fun W => l5Mul_q f (g5 m) W hf16 hg16)
            have hp16 := fmul_lt hf16 hg16
            have hst : divM (divR (co xs) k) k f (m + 1) = upd (divM (divR (co xs) k) k f m) (k + m) (fmul f (g5 m)) := rfl
            generalize fmul f (g5 m) = P at *
            generalize g5 m = g at *
            obtain ⟨x, hx⟩ : ∃ x, x = divM (divR (co xs) k) k f m (k + m) ^^^ P := ⟨_, rfl⟩
            obtain ⟨q, hq⟩ : ∃ q, q = k + m := ⟨_, rfl⟩
            have hset : WS V0 (wr.drew.setCell ⟨rb, q, none⟩ (.int .i64 (x : Int))) rb 15 cap5 (divM (divR (co xs) k) k f (m + 1)) := by
              rw [hst, hq]
              exact WS.set (W := wr.drew) ⟨hs.1.drewN 1, below_drewN hs.2 1⟩ (by omega) hx
            rw [← hq] at cR fR hd16 hx
            have hxw : bits .xor .i64 (divM (divR (co xs) k) k f m q : Int) (P : Int) = (x : Int) := by rw [hx]; exact xor_word _ _ (by omega) (by omega)
            generalize divM (divR (co xs) k) k f m q = u at *
            have HSet := Lib.hid hset
            have hw1 : IntKind.i64.wrap ((k : Int) + (m : Int)) = (q : Int) := by rw [IntKind.wrap_i64]; omega
            have hqn : (q : Int) < 15 := by omega
            have hm5 : (m : Int) < 5 := by omega
            clear hs hst hx hset hq hd
            go_wp2
            (refine wp_region_still_tail 18 (by kernel_rfl) (by kernel_rfl) ?_
             simp only [List.take_succ_cons, List.take_zero, List.drop_succ_cons, List.drop_zero]
             repeat still_step)
            still_call (HM.out _)
            repeat still_step
            refine wpStill_nil ?_
            change wpList _ _ _ _ _ wr.drew
            have cN2 : wr.drew.cell? ⟨rb, q, none⟩ = some (.int .i64 (u : Int)) := cR
            have fN2 : wr.drew.frozen? ⟨rb, q, none⟩ = false := fR
            clear hw1
            generalize wr.drew = wd at *
            go_wp2
            go_roundw
            case rel => exact ⟨m + 1, by omega, by go_num, HSet.out⟩
            case measure => simp [intOf]; omega
          · obtain rfl : m = 5 := by omega
            have S7 : Hid (WS V0 wr rb 15 cap5 (divR (co xs) (k + 1))) := by
              have h := hs
              rw [HF.out] at h
              exact h
            clear hs
            go_wp2
            go_roundw
            case rel => exact ⟨k + 1, by omega, by go_num, S7.out⟩
            case measure => simp [intOf]; omega
      · obtain rfl : k = 11 := by omega
        clear hs
        have hne : ¬ cap5 = 11 := by omega
        have IR := Lib.hid (Ints.cutC (m := 11) S6.out.1.ints)
        have I0 := Lib.hid (fun o => ((IX.out.next S6.out.2).below (below_alloc W0 o)))
        have B0 := Lib.hid (fun o => below_alloc W0 o)
        have BS := Lib.hid S6.out.2
        have hs0 : V0.heap.size ≤ W0.heap.size := S6.out.2.size
        have hd4 : ((ofN (divR (co xs) 11) 15).drop 11).length = 4 := by rw [List.length_drop, ofN_length]
        have HD4 := Lib.hid hd4
        clear hd4 S6
        go_wp2
        go_region_law (first
          | (refine step_appendC (.tmp 48) (.tmp 49) W0.heap.size (some ⟨W0.heap.size, 0, none⟩) a 0 0 xs.length c W0.heap.size [] xs rfl rfl rfl rfl (Grow.lit0 .i64 3 W0.drew W0.heap.size (Nat.le_refl _)) (I0.out _) rfl (by omega) (by simp) ?_; intro a8 cap8 w8 hg8 hb8; rw [Nat.zero_add, List.nil_append] at hg8; have HG8 := Lib.hid hg8; have HB8 : Hid (Below W0.heap.size W0.drew w8) := (Below.alloc (Below.refl W0.heap.size W0.drew) (Nat.le_refl _) _).trans hb8; have hs8 : W0.heap.size ≤ w8.heap.size := HB8.out.size; clear hg8 hb8)
          | (refine step_appendC (.tmp 50) (.tmp 52) W0.heap.size a8 (some ⟨rb, 0 + 11, none⟩) xs.length cap8 4 (cap5 - 11) W0.heap.size xs ((ofN (divR (co xs) 11) 15).drop 11) rfl rfl rfl rfl HG8.out (Ints.below (w := W0.drew) IR.out HB8.out) HD4.out (by omega) hs8 ?_; intro a9 cap9 w9 hg9 hb9; rw [HRE.out] at hg9; have HG9 := Lib.hid hg9; have HB9 : Hid (Below W0.heap.size W0.drew w9) := HB8.out.trans hb9; clear hg9 hb9))
        all_goals
          go_wp2
          go_ret
          exact ⟨_, _, _, rfl, HG9.out.base_le (Nat.le_trans BV.out.size hs0), Below.next BV.out (Nat.le_refl _) (Below.next BS.out (Nat.le_refl _) ((Below.refl W0.heap.size W0).drew.trans HB9.out))⟩
end Go.Proofs.YtkeeijkjemcbcaaDoor
