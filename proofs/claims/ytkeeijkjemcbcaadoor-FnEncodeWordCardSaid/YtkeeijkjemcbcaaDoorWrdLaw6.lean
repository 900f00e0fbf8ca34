/-
  The law of encoding, walked: it returns true for every code, and writes into nothing that was there. Condition: the program's four tables lie in their variables.
-/
import Derived.Test.YtkeeijkjemcbcaaDoorWrdLaw3
import Derived.Deep.DeepAppendRoom
import Derived.ArgAppend
namespace Go.Proofs.YtkeeijkjemcbcaaDoor
open Go.RowKit

section
variable {w : World} {ops : Array Oper} {rest : List Oper} {o : Oper} {a : Act} {Q : Exit → Act → World → Prop}
/-- One number appended to a slice in block g: it stays in g, or it lies in a new block; no other block changes. -/
theorem run_append_two (w : World) (ty : TypeId) (base g n cap : Nat) (xs : List Int) (ad : Addr) (v : Int)
    (hg : Grow .i64 3 w base (some ⟨g, 0, none⟩) n cap xs) (hc : w.cell? ad = some (.int .i64 v)) (hn : n < 1099511627776) (hb : base ≤ w.heap.size) :
    ∃ g' cap' w', (Builtin.append_ #[23, 23] ty #[.slice (some ⟨g, 0, none⟩) n cap, .slice (some ad) 1 1]).run Tryd.prog w = .ok (.slice (some ⟨g', 0, none⟩) (n + 1) cap') w' ∧
      (g' = g ∨ w.heap.size ≤ g') ∧ Grow .i64 3 w' base (some ⟨g', 0, none⟩) (n + 1) cap' (xs ++ [v]) ∧ w.grownBy w' (some g) := by
  obtain ⟨i0, hi0, hz0, hz1, hz2⟩ := info_parts Tryd.infoInt
  have hnews : ∀ j u, [Value.int .i64 v][j]? = some u → w.cell? (ad.add j) = some u := fun j u hj => by
    match j, hj with
    | 0, hj => simp at hj; subst hj; simpa [Addr.add] using hc
  have hmap : (xs ++ [v]).map (Value.int .i64) = xs.map (Value.int .i64) ++ [Value.int .i64 v] := by simp
  by_cases hroom : n + 1 ≤ cap
  · obtain ⟨w', hr, h2, h3⟩ := run_append_own_spare (P := Tryd.prog) w base 23 ty 3 i0 1 Tryd.underlying23 hi0 hz1 g n cap (xs.map (Value.int .i64)) hg ad 1 1 [.int .i64 v] rfl hnews (by simp [Value.oneCell']) hroom
    refine ⟨g, cap, w', hr, .inl rfl, ?_, h3⟩
    unfold Grow; rw [hmap]; exact h2
  · have hbo : ∀ j u, (xs.map (Value.int .i64))[j]? = some u → w.cell? ((⟨g, 0, none⟩ : Addr).add j) = some u := World.ownsRow.cells hg rfl
    obtain ⟨v', w', hr, h2, h3⟩ := run_append_arg_grows (P := Tryd.prog) w 23 ty 3 i0 (.int .i64 0) 1 8 Tryd.underlying23 hi0 hz0 hz1 hz2 rfl (by omega) ⟨g, 0, none⟩ n cap (xs.map (Value.int .i64)) (by have := hg.len; simp [this]) hbo ad 1 1 [.int .i64 v] rfl hnews (by omega) (by unfold maxLen; omega) (by omega)
    have h4 : w.grownBy w' (some g) := ⟨h3.os, h3.tape, h3.output, h3.size, fun k hk _ => h3.block k hk (by simp)⟩
    rcases h2.2 with ⟨_, h0⟩ | ⟨g', c', cur, e, hbg, rest⟩
    · omega
    · subst e
      refine ⟨g', c', w', hr, .inr hbg, ?_, h4⟩
      unfold Grow; rw [hmap]
      exact ⟨h2.1, .inr ⟨g', c', cur, rfl, Nat.le_trans hb hbg, rest⟩⟩
theorem wpList_append_two (s x : Operand) (base g n cap : Nat) (xs : List Int) (ad : Addr) (v : Int)
    (hgd : o.guard = none) (ho : o.op = .call { callee := .builtin .append, args := #[s, x], argTypes := #[23, 23] }) (hs : a.eval s = .slice (some ⟨g, 0, none⟩) n cap) (hx : a.eval x = .slice (some ad) 1 1)
    (hg : Grow .i64 3 w base (some ⟨g, 0, none⟩) n cap xs) (hc : w.cell? ad = some (.int .i64 v)) (hn : n < 1099511627776) (hb : base ≤ w.heap.size)
    (h : ∀ g' cap' w', (g' = g ∨ w.heap.size ≤ g') → Grow .i64 3 w' base (some ⟨g', 0, none⟩) (n + 1) cap' (xs ++ [v]) → w.grownBy w' (some g) → wpList Tryd.prog ops Q rest (a.put o.dst (.slice (some ⟨g', 0, none⟩) (n + 1) cap')) w') : wpList Tryd.prog ops Q (o :: rest) a w := by
  obtain ⟨g', cap', w', hr, h1, h2, h3⟩ := run_append_two w o.type base g n cap xs ad v hg hc hn hb
  exact Lib.wpList_append_run w hgd s x _ _ ho _ _ hs hx _ _ hr (h g' cap' w' h1 h2 h3)
theorem step_append_two {K : Act → World → Prop} {E : Prop} (s x : Operand) (base g n cap : Nat) (xs : List Int) (ad : Addr) (v : Int)
    (hw : Region.wanted o (yielded ops a.tmps) = true) (ho : o.op = .call { callee := .builtin .append, args := #[s, x], argTypes := #[23, 23] }) (hs : a.eval s = .slice (some ⟨g, 0, none⟩) n cap) (hx : a.eval x = .slice (some ad) 1 1)
    (hg : Grow .i64 3 w base (some ⟨g, 0, none⟩) n cap xs) (hc : w.cell? ad = some (.int .i64 v)) (hn : n < 1099511627776) (hb : base ≤ w.heap.size)
    (h : ∀ g' cap' w', (g' = g ∨ w.heap.size ≤ g') → Grow .i64 3 w' base (some ⟨g', 0, none⟩) (n + 1) cap' (xs ++ [v]) → w.grownBy w' (some g) → K (a.put o.dst (.slice (some ⟨g', 0, none⟩) (n + 1) cap')) w') : if Region.wanted o (yielded ops a.tmps) = true then Oper.wp Tryd.prog o a w K Q else E := by
  rw [if_pos hw]
  obtain ⟨g', cap', w', hr, h1, h2, h3⟩ := run_append_two w o.type base g n cap xs ad v hg hc hn hb
  exact Lib.wp_append_run w s x _ _ ho _ _ hs hx _ _ hr (h g' cap' w' h1 h2 h3)
end

/-- Two lists that grow, in two blocks of the call's own. -/
def TwoL (w W : World) (tb sb m nt cs : Nat) (ts ss : List Int) (mt : Nat) : Prop :=
  Grow .i64 3 W w.heap.size (some ⟨tb, 0, none⟩) mt nt ts ∧ Grow .i64 3 W w.heap.size (some ⟨sb, 0, none⟩) m cs ss ∧ tb ≠ sb ∧ Below w.heap.size w W
theorem Grow.blockLt {k : IntKind} {t : TypeId} {W : World} {base g n cap : Nat} {xs : List Int} (h : Grow k t W base (some ⟨g, 0, none⟩) n cap xs) : base ≤ g ∧ g < W.heap.size := World.ownsRow.lt h g rfl
theorem Grow.keptBy {k : IntKind} {t : TypeId} {W W' : World} {base g n cap r : Nat} {xs : List Int} (h : Grow k t W base (some ⟨g, 0, none⟩) n cap xs) (hg : W.grownBy W' (some r)) (hne : g ≠ r) : Grow k t W' base (some ⟨g, 0, none⟩) n cap xs :=
  World.ownsRow.kept h hg (.inr (by simpa [Value.ownBlock] using hne))
theorem TwoL.alloc {w W : World} {tb sb m nt cs mt : Nat} {ts ss : List Int} (h : TwoL w W tb sb m nt cs ts ss mt) (o : Obj) : TwoL w (W.alloc o) tb sb m nt cs ts ss mt :=
  ⟨h.1.alloc o, h.2.1.alloc o, h.2.2.1, h.2.2.2.alloc h.2.2.2.size o⟩
theorem TwoL.drew {w W : World} {tb sb m nt cs mt : Nat} {ts ss : List Int} (h : TwoL w W tb sb m nt cs ts ss mt) : TwoL w W.drew tb sb m nt cs ts ss mt := ⟨h.1.drew, h.2.1.drew, h.2.2.1, h.2.2.2.drew⟩
theorem TwoL.first {w W W' : World} {tb sb m nt cs mt tb' nt' mt' : Nat} {ts ss ts' : List Int} (h : TwoL w W tb sb m nt cs ts ss mt) (hb : tb' = tb ∨ W.heap.size ≤ tb')
    (hg : Grow .i64 3 W' w.heap.size (some ⟨tb', 0, none⟩) mt' nt' ts') (hw : W.grownBy W' (some tb)) : TwoL w W' tb' sb m nt' cs ts' ss mt' :=
  ⟨hg, h.2.1.keptBy hw (fun e => h.2.2.1 e.symm), by have := h.2.1.blockLt; rcases hb with rfl | hb; exact h.2.2.1; omega,
    h.2.2.2.grown hw h.2.2.2.size (fun k e => by injection e with e; subst e; exact h.1.blockLt.1)⟩
theorem TwoL.second {w W W' : World} {tb sb m nt cs mt sb' cs' m' : Nat} {ts ss ss' : List Int} (h : TwoL w W tb sb m nt cs ts ss mt) (hb : sb' = sb ∨ W.heap.size ≤ sb')
    (hg : Grow .i64 3 W' w.heap.size (some ⟨sb', 0, none⟩) m' cs' ss') (hw : W.grownBy W' (some sb)) : TwoL w W' tb sb' m' nt cs' ts ss' mt :=
  ⟨h.1.keptBy hw h.2.2.1, hg, by have := h.1.blockLt; rcases hb with rfl | hb; exact h.2.2.1; omega,
    h.2.2.2.grown hw h.2.2.2.size (fun k e => by injection e with e; subst e; exact h.2.1.blockLt.1)⟩

theorem ofN_cell {w : World} {B b off n : Nat} {c : Nat → Nat} (h : Ints .i64 w B (some ⟨b, off, none⟩) (ofN c n)) {i : Nat} (hi : i < n) : w.cell? ⟨b, off + i, none⟩ = some (.int .i64 (c i)) := by
  obtain ⟨_, _, e', _, hc'⟩ := h.at_ (i := i) (by rw [ofN_length]; exact hi)
  injection e' with e'
  injection e' with e1 e2
  subst e1 e2
  rwa [ofN_el hi] at hc'
/-- The data turned round, and the sum of both. -/
def rev6 (d : Nat → Nat) : Nat → Nat := fun i => d (10 - i)
def sum6 (d : Nat → Nat) : Nat → Nat := fun i => d i ^^^ d (10 - i)
theorem ofN_next (c : Nat → Nat) (n : Nat) : ofN c n ++ [(c n : Int)] = ofN c (n + 1) := by unfold ofN; rw [List.range_succ]; simp
theorem enc6_sum {c e : Nat → Nat} (hc : Lt16 c) (he : Lt16 e) {i : Nat} (hi : i < 15) : enc6 c i ^^^ enc6 e i = enc6 (fun k => c k ^^^ e k) i := by
  have hC := enc6_lt hc
  have hE := enc6_lt he
  have h := enc6_uniq (c := fun k => enc6 c k ^^^ enc6 e k) (d := fun k => c k ^^^ e k) (fun k => xor_lt (hC k) (hE k)) (fun k => xor_lt (hc k) (he k))
    (fun k hk => by rw [syn6_xor hC hE, enc6_zero hc k hk, enc6_zero he k hk, Nat.xor_self]) (fun k hk => by simp only [enc6_data c hk, enc6_data e hk])
  exact h i hi
set_option maxHeartbeats 2000000 in
theorem walkEncodeWord (a : Option Addr) (c : Nat) (ds : List Int) (w : World) (hx : Ints .u8 w w.heap.size a ds) (hw : ∀ n ∈ ds, (Lit.int .u8 n).wf = true) (hc : ds.length ≤ c) (hcm : c ≤ maxLen) (hT : Tabs2 w) (hZ : ZerTab w) (hG : GenTab w) :
    Calls Tryd.prog 3 #[.slice a ds.length c] w fun e w' => e = .returned (.bool true) ∧ Below w.heap.size w w' := by
  have hb := isByte_of_wf hw
  have HT := Lib.hid hT
  have HZ := Lib.hid hZ
  have HG := Lib.hid hG
  clear hw hT hZ hG
  by_cases hl : ds.length ≤ 1048576
  · go_enter Tryd.func3, Tryd.ntmps3
    go_wp2_with fail
    refine (drawEncodeWord_any a c ds w hx hb hc hcm).mono ?_
    rintro e w1 ⟨xs, a1, c1, rfl, ⟨l1, l2, l3⟩, i1, b1⟩
    have X1 := Lib.hid i1
    have B1 := Lib.hid b1
    clear hx hb hc hcm i1 b1
    obtain ⟨S, hS⟩ : ∃ S, S = encL xs := ⟨_, rfl⟩
    have HS := Lib.hid hS
    have hSl : S.length ≤ 15 := by rw [hS]; exact encL_small xs
    have z3 : decide (S = S) = true := by simp
    clear hS
    go_wp2_with fail
    refine (encodeWord_any a1 c1 xs w1 X1.out (HT.out.next B1.out) (HG.out.next B1.out)).mono ?_
    rw [← HS.out]
    rintro e w2 ⟨v2, cv2, rfl, r2, o2, b2⟩
    have S2 := Lib.hid (own_of_list o2).ints
    have X2 := Lib.hid (X1.out.next b2)
    have B2 := Lib.hid (Below.next B1.out (Nat.le_refl _) b2)
    have R2 := Lib.hid r2
    clear o2 b2 r2 X1 B1
    have hsp := specEncodeWord_any a1 c1 xs w2 X2.out (by omega)
    rw [← HS.out] at hsp
    have HSP := Lib.hid hsp
    clear hsp
    go_wp2_with fail
    refine HSP.out.mono ?_
    rintro e w3 ⟨v3, n3, cv3, rfl, g3, b3⟩
    obtain rfl : S.length = n3 := g3.len
    have U3 := Lib.hid g3.ints
    have S3 := Lib.hid (S2.out.next b3)
    have X3 := Lib.hid (X2.out.next b3)
    have B3 := Lib.hid (Below.next B2.out (Nat.le_refl _) b3)
    clear g3 b3 S2 X2 B2 HSP
    go_wp2_with fail
    refine (sameInts_any v2 v3 cv2 cv3 w3.heap.size w3.heap.size S S w3 S3.out U3.out (by omega)).mono ?_
    rintro e w4 ⟨rfl, n4, rfl⟩
    have B4 := Lib.hid (below_drewN B3.out n4)
    have S4 : Hid (Ints .i64 (w3.drewN n4) (w3.drewN n4).heap.size v2 S) := S3.out
    have X4 : Hid (Ints .i64 (w3.drewN n4) (w3.drewN n4).heap.size a1 xs) := X3.out
    clear S3 X3 B3 U3
    generalize w3.drewN n4 = w4 at *
    cases hok : wok 11 xs
    · obtain rfl : S = [] := by rw [HS.out, encL_no hok]
      clear hok HS
      go_wp2_with fail
      refine (alive_any w4).mono ?_
      rintro e w8 ⟨rfl, b8⟩
      have B8 := Lib.hid (Below.next B4.out (Nat.le_refl _) b8)
      clear b8
      go_wp2
      go_ret
      exact ⟨rfl, B8.out⟩
    · have hd16 := wok_lt hok
      obtain rfl : S = ofN (enc6 (co xs)) 15 := by rw [HS.out, encL_yes hok]
      have HE16 := Lib.hid (enc6_lt hd16)
      have HEZ := Lib.hid (enc6_zero hd16)
      have HOK := Lib.hid hok
      have H16 := Lib.hid hd16
      rw [ofN_length] at *
      clear hok HS hSl z3 hd16
      have hxl := (wok_parts HOK.out).1
      have hxe := wok_eq HOK.out
      clear HOK
      generalize co xs = d at *
      subst hxe
      rw [ofN_length] at *
      go_wp2
      have T0 : Hid (TwoL w4 ((w4.alloc (.cells #[] 3)).alloc (.cells #[] 3)) w4.heap.size (w4.heap.size + 1) 0 0 0 [] [] 0) := by
        refine ⟨(Grow.lit0 _ _ w4 w4.heap.size (Nat.le_refl _)).alloc _, ?_, by omega, (below_alloc w4 _).alloc (below_alloc w4 _).size _⟩
        have := Grow.lit0 .i64 3 (w4.alloc (.cells #[] 3)) w4.heap.size (by simp)
        simpa using this
      obtain ⟨b, off, rfl, hb4, _⟩ := X4.out.at_ (i := 0) (by rw [ofN_length]; omega)
      have HX := Lib.hid (fun i (hi : i < 11) => ofN_cell X4.out hi)
      clear hxl
      go_loopw [5, 6, 7] (fun T U i wr => ∃ k tb nt sb cs : Nat, k ≤ 11 ∧ i = .int .i64 k ∧ T = .slice (some ⟨tb, 0, none⟩) k nt ∧ U = .slice (some ⟨sb, 0, none⟩) k cs ∧ TwoL w4 wr tb sb k nt cs (ofN (rev6 d) k) (ofN (sum6 d) k) k) (fun _ _ i _ => 11 - (intOf i).toNat)
      case atStart => exact ⟨0, _, _, _, _, by omega, rfl, rfl, rfl, T0.out⟩
      case round =>
        obtain ⟨k, tb, nt, sb, cs, hk, rfl, rfl, rfl, hs⟩ := hrel
        have T4 := Lib.hid hs
        clear T0 hs
        by_cases hlt : k < 11
        · obtain ⟨q, hq⟩ : ∃ q, q = 10 - k := ⟨_, rfl⟩
          have hq11 : q < 11 := by omega
          have cQ := (T4.out.2.2.2.cell (p := ⟨b, off + q, none⟩) hb4).trans (HX.out q hq11)
          have r1 : IntKind.i64.wrap (10 - (k : Int)) = (q : Int) := by rw [IntKind.wrap_i64]; omega
          have hki : (k : Int) < 11 := by omega
          have HQ := Lib.hid hq
          have hszT : w4.heap.size ≤ wr.heap.size := T4.out.2.2.2.size
          clear hq
          go_wp2_with (at_builtin; refine wpList_append_two (.tmp 35) (.tmp 44) w4.heap.size tb k nt (ofN (rev6 d) k) ⟨wr.heap.size, 0, none⟩ (d q : Int) rfl rfl rfl rfl (T4.out.1.alloc _) (by simp) (by omega) (by simp; omega) ?_; intro tb5 nt5 w5 hb5 hg5 hn5; have T5 := Lib.hid ((T4.out.alloc _).first hb5 hg5 hn5); clear hb5 hg5 hn5)
          have T6 : Hid (TwoL w4 w5 tb5 sb k nt5 cs (ofN (rev6 d) (k + 1)) (ofN (sum6 d) k) (k + 1)) := by
            have h := T5.out
            rwa [show (d q : Int) = (rev6 d k : Int) by rw [HQ.out]; rfl, ofN_next] at h
          have cT := (grow_ofN_cell T6.out.1 (i := k) (by omega)).1
          rw [show (rev6 d k : Int) = (d q : Int) by rw [HQ.out]; rfl] at cT
          have cD := (T6.out.2.2.2.cell (p := ⟨b, off + k, none⟩) hb4).trans (HX.out k hlt)
          obtain ⟨x, hx⟩ : ∃ x, x = sum6 d k := ⟨_, rfl⟩
          have HM := Lib.hid (fun W => add_is (d k) (d q) x W (H16.out k) (H16.out q) (by rw [hx, HQ.out]; rfl))
          have HXx := Lib.hid hx
          have hsz5 : w4.heap.size ≤ w5.heap.size := T6.out.2.2.2.size
          have hk1 : (k : Int) < (k : Int) + 1 := by omega
          clear hx T5 T4 cQ r1
          go_region_law (first
            | (refine step_append_two (.tmp 46) (.tmp 56) w4.heap.size sb k cs (ofN (sum6 d) k) ⟨w5.heap.size, 0, none⟩ (x : Int) rfl rfl rfl rfl (Grow.alloc (w := w5.drew) T6.out.2.1 _) (by simp) (by omega) (by simp; omega) ?_; intro sb7 cs7 w7 hb7 hg7 hn7; have T7 := Lib.hid ((TwoL.alloc (W := w5.drew) T6.out.drew _).second hb7 hg7 hn7); clear hb7 hg7 hn7)
            | (go_simp; go_at_call 18; refine (HM.out _).mono ?_; rintro e w' ⟨rfl, rfl⟩)
            | fail)
          all_goals
            have T8 : Hid (TwoL w4 w7 tb5 sb7 (k + 1) nt5 cs7 (ofN (rev6 d) (k + 1)) (ofN (sum6 d) (k + 1)) (k + 1)) := by
              have h := T7.out
              rwa [HXx.out, ofN_next] at h
            go_wp2
            go_roundw
            case rel => exact ⟨k + 1, tb5, nt5, sb7, cs7, by omega, by go_num, rfl, rfl, T8.out⟩
            case measure => simp [intOf]; omega
        · obtain rfl : k = 11 := by omega
          have hr16 : Lt16 (rev6 d) := fun i => H16.out _
          have hs16 : Lt16 (sum6 d) := fun i => xor_lt (H16.out _) (H16.out _)
          have B5 := Lib.hid (Below.next B4.out (Nat.le_refl _) T4.out.2.2.2)
          have S5 := Lib.hid (S4.out.next T4.out.2.2.2)
          have X5 := Lib.hid (X4.out.next T4.out.2.2.2)
          have h6 := encodeWord_any (some ⟨tb, 0, none⟩) nt (ofN (rev6 d) 11) wr T4.out.1.ints (HT.out.next B5.out) (HG.out.next B5.out)
          rw [ofN_length, encL_ofN hr16] at h6
          have H6 := Lib.hid h6
          have U5 := Lib.hid T4.out.2.1.ints
          have HES := Lib.hid (encL_ofN hs16)
          have HR16 := Lib.hid (enc6_lt hr16)
          clear h6 hr16 hs16 T4 S4 X4 B4 HX hk hlt
          go_wp2_with fail
          refine H6.out.mono ?_
          rintro e w6 ⟨v6, cv6, rfl, r6, o6, b6⟩
          rw [ofN_length]
          have I6 := Lib.hid (own_of_list o6).ints
          have S6 := Lib.hid (S5.out.next b6)
          have X6 := Lib.hid (X5.out.next b6)
          have U6 := Lib.hid (U5.out.next b6)
          have B6 := Lib.hid (Below.next B5.out (Nat.le_refl _) b6)
          have h7 := encodeWord_any (some ⟨sb, 0, none⟩) cs (ofN (sum6 d) 11) w6 U6.out (HT.out.next B6.out) (HG.out.next B6.out)
          rw [ofN_length, HES.out] at h7
          have H7 := Lib.hid h7
          clear h7 o6 b6 r6 S5 X5 U5 B5 H6 HES
          go_wp2_with fail
          refine H7.out.mono ?_
          rintro e w7 ⟨v7, cv7, rfl, r7, o7, b7⟩
          rw [ofN_length]
          have J7 := Lib.hid (own_of_list o7).ints
          have I7 := Lib.hid (I6.out.next b7)
          have S7 := Lib.hid (S6.out.next b7)
          have X7 := Lib.hid (X6.out.next b7)
          have B7 := Lib.hid (Below.next B6.out (Nat.le_refl _) b7)
          clear o7 b7 r7 S6 X6 U6 B6 H7 I6
          obtain ⟨b2, f2, rfl, hb2, _⟩ := S7.out.at_ (i := 0) (by rw [ofN_length]; omega)
          obtain ⟨b6, f6, rfl, hb6, _⟩ := I7.out.at_ (i := 0) (by rw [ofN_length]; omega)
          obtain ⟨b7, f7, rfl, hb7, _⟩ := J7.out.at_ (i := 0) (by rw [ofN_length]; omega)
          have C2 := Lib.hid (fun n i (hi : i < 15) => ofN_cell (w := w7.drewN n) S7.out hi)
          have C6 := Lib.hid (fun n i (hi : i < 15) => ofN_cell (w := w7.drewN n) I7.out hi)
          have C7 := Lib.hid (fun n i (hi : i < 15) => ofN_cell (w := w7.drewN n) J7.out hi)
          clear hb2 hb6 hb7 I7 J7
          go_wp2
          go_loopw [10] (fun i wr => ∃ k : Nat, k ≤ 15 ∧ i = .int .i64 k ∧ ∃ n, wr = w7.drewN n) (fun i _ => 15 - (intOf i).toNat)
          case atStart => exact ⟨0, by omega, rfl, 0, rfl⟩
          case round =>
            obtain ⟨k, hk, rfl, n8, rfl⟩ := hrel
            by_cases hlt : k < 15
            · have c2 := C2.out n8 k hlt
              have c6 := C6.out n8 k hlt
              have c7 := C7.out n8 k hlt
              obtain ⟨x, hx⟩ : ∃ x, x = enc6 (sum6 d) k := ⟨_, rfl⟩
              rw [← hx] at c7
              have hxx : enc6 d k ^^^ enc6 (rev6 d) k = x := by rw [hx]; exact enc6_sum H16.out (fun i => H16.out _) hlt
              have HNx := Lib.hid (fun n => show ∃ m, (w7.drewN n8).drewN n = w7.drewN m from ⟨n8 + n, by simp⟩)
              generalize w7.drewN n8 = w8 at *
              have QA := Lib.hid (fun n => (add_is (enc6 d k) (enc6 (rev6 d) k) x (w8.drewN n) (HE16.out k) (HR16.out k) hxx).mono (fun e w' ⟨h1, h2⟩ => (⟨h1, h2.symm⟩ : e = Ending.returned (.int .i64 (x : Int)) ∧ w' = w8.drewN n)))
              generalize enc6 d k = y at *
              generalize enc6 (rev6 d) k = z at *
              have zx : ((x : Int) == (x : Int)) = true := by simp
              have hk15 : (k : Int) < 15 := by omega
              clear hx hxx
              go_wp2
              go_quiet ((first
                | (go_at_call 18; with_reducible exact Calls.quiet_of_same (QA.out _))))
              go_wp2
              go_roundw
              case rel => exact ⟨k + 1, by omega, by go_num, HNx.out _⟩
              case measure => simp [intOf]; omega
            · obtain rfl : k = 15 := by omega
              have B8 := Lib.hid (below_drewN B7.out n8)
              have S8 : Hid (Ints .i64 (w7.drewN n8) (w7.drewN n8).heap.size (some ⟨b2, f2, none⟩) (ofN (enc6 d) 15)) := S7.out
              have X8 : Hid (Ints .i64 (w7.drewN n8) (w7.drewN n8).heap.size (some ⟨b, off, none⟩) (ofN d 11)) := X7.out
              clear C2 C6 C7 S7 X7 B7
              generalize w7.drewN n8 = w8 at *
              have hcap11 : (11 : Int) ≤ (cv2 : Int) := by have := R2.out.1; omega
              have D8 := Lib.hid (S8.out.cutT (m := 11))
              rw [ofN_take _ (by omega), ofN_congr fun i hi => enc6_data d hi] at D8
              have h9 := sameInts_any (some ⟨b2, f2, none⟩) (some ⟨b, off, none⟩) cv2 c1 w8.heap.size w8.heap.size (ofN d 11) (ofN d 11) w8 D8.out X8.out (by rw [ofN_length]; omega)
              rw [ofN_length, decide_eq_true rfl] at h9
              have H9 := Lib.hid h9
              have HSyn := Lib.hid (syn_zero HE16.out HEZ.out)
              clear h9
              go_wp2_with fail
              refine H9.out.mono ?_
              rintro e w9 ⟨rfl, n9, rfl⟩
              have h10 := wordSyndromes_any (some ⟨b2, f2, none⟩) cv2 (ofN (enc6 d) 15) (w8.drewN n9) S8.out (HT.out.next (below_drewN B8.out n9)) (HZ.out.next (below_drewN B8.out n9))
              rw [ofN_length] at h10
              unfold SynPost at h10
              rw [HSyn.out] at h10
              have H10 := Lib.hid h10
              clear h10
              go_wp2_with fail
              refine H10.out.mono ?_
              rintro e w10 ⟨v10, cv10, rfl, _, o10, b10⟩
              have S10 := Lib.hid (own_of_list o10).ints
              have B10 := Lib.hid (Below.next (below_drewN B8.out n9) (Nat.le_refl _) b10)
              clear o10 b10
              go_wp2_with fail
              refine (sameInts_any v10 (some ⟨w10.heap.size, 0, none⟩) cv10 4 w10.heap.size (w10.alloc (.cells #[.int .i64 ((0 : Nat) : Int), .int .i64 ((0 : Nat) : Int), .int .i64 ((0 : Nat) : Int), .int .i64 ((0 : Nat) : Int)] 3)).heap.size [((0 : Nat) : Int), ((0 : Nat) : Int), ((0 : Nat) : Int), ((0 : Nat) : Int)] [((0 : Nat) : Int), ((0 : Nat) : Int), ((0 : Nat) : Int), ((0 : Nat) : Int)] _ (S10.out.below (below_alloc w10 _)) (Grow.lit4 w10 w10.heap.size 0 0 0 0 (Nat.le_refl _)).ints (by simp)).mono ?_
              rintro e w11 ⟨rfl, n11, rfl⟩
              have B11 := Lib.hid (below_drewN (B10.out.alloc B10.out.size (.cells #[.int .i64 ((0 : Nat) : Int), .int .i64 ((0 : Nat) : Int), .int .i64 ((0 : Nat) : Int), .int .i64 ((0 : Nat) : Int)] 3)) n11)
              go_wp2
              go_ret
              exact ⟨by simp, B11.out⟩
  · go_enter Tryd.func3, Tryd.ntmps3
    go_wp2
    go_ret
    exact ⟨rfl, Below.refl _ _⟩
end Go.Proofs.YtkeeijkjemcbcaaDoor
