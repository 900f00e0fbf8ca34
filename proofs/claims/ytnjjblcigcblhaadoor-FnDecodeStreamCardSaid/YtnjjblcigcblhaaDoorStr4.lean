/-
  What EncodeStream, DecodeStream and StreamErrors answer, for every list. Conditions: a list that can be read; the program's two tables of the stream code lie in their variables.
-/
import Derived.Test.YtnjjblcigcblhaaDoorStr3
import Derived.Test.YtnjjblcigcblhaaDoorSliceFns
import Derived.Deep.DeepAppendRoom
namespace Go.Proofs.YtnjjblcigcblhaaDoor
open Go.RowKit

theorem makeG (n : Nat) (hn : n ≤ 1000) (w : World) : (Instr.makeSlice 23 (.int .i64 0) (.int .i64 (n : Int))).run Tryd.prog w = .ok (.slice (some ⟨w.heap.size, 0, none⟩) 0 n) (w.alloc (.cells (madeCells #[.int .i64 0] n) 3)) := by
  obtain ⟨i0, hi0, hz0, hz1, hz2⟩ := info_parts Tryd.infoInt
  have h := run_make (P := Tryd.prog) w 23 3 i0 (.int .i64 0) Tryd.underlying23 hi0 hz0 .i64 .i64 0 (n : Int) (by omega) (by omega) (by rw [hz2]; omega) (by omega)
  rw [hz1, Nat.mul_one] at h
  exact h
theorem Grow.madeG (w : World) (base n : Nat) (hn : n ≤ 1000) (hb : base ≤ w.heap.size) : Grow .i64 3 (w.alloc (.cells (madeCells #[.int .i64 0] n) 3)) base (some ⟨w.heap.size, 0, none⟩) 0 n [] :=
  World.ownsRow_made (base := base) (e := 3) (size := 1) w (madeCells #[.int .i64 0] n) n hb (by unfold maxLen; omega) (by simp [size_madeCells])

/-- The state behind the first k bits, and the code of them. -/
def stK (l : List Nat) (k : Nat) : Nat := 2 * (sFin 0 0 (l.take k)).1 + (sFin 0 0 (l.take k)).2
def cdK (l : List Nat) (k : Nat) : List Int := flat (sEnc 0 0 (l.take k))
theorem stK_lt {l : List Nat} (h : Bits2 l) (k : Nat) : stK l k < 4 := by
  have := sFin_lt (l.take k) 0 0 (by omega) (by omega) (h.take k)
  unfold stK
  omega
theorem take_next {l : List Nat} {k : Nat} (hk : k < l.length) : l.take (k + 1) = l.take k ++ [l.getD k 0] := by
  rw [List.take_succ_eq_append_getElem hk]; simp [hk]
theorem stK_next {l : List Nat} (h : Bits2 l) {k : Nat} (hk : k < l.length) : nxN (stK l k) (l.getD k 0) = stK l (k + 1) := by
  have := sFin_lt (l.take k) 0 0 (by omega) (by omega) (h.take k)
  unfold stK nxN
  rw [take_next hk, sFin_snoc]
  show 2 * _ + _ = 2 * _ + _
  omega
theorem cdK_next {l : List Nat} (h : Bits2 l) {k : Nat} (hk : k < l.length) : cdK l k ++ [(prN (stK l k) (l.getD k 0) 0 : Int), prN (stK l k) (l.getD k 0) 1] = cdK l (k + 1) := by
  have := sFin_lt (l.take k) 0 0 (by omega) (by omega) (h.take k)
  unfold cdK
  rw [take_next hk, sEnc_snoc, flat_app]
  simp only [flat, prN, stK, if_true, show ¬ (1 = 0) by omega, if_false]
  rw [show (2 * (sFin 0 0 (l.take k)).1 + (sFin 0 0 (l.take k)).2) / 2 = (sFin 0 0 (l.take k)).1 by omega, show (2 * (sFin 0 0 (l.take k)).1 + (sFin 0 0 (l.take k)).2) % 2 = (sFin 0 0 (l.take k)).2 by omega]
theorem cdK_all (xs : List Int) : cdK (tailed xs) (xs.length + 2) = codeL xs := by
  unfold cdK codeL
  rw [List.take_of_length_le (by rw [tailed_length]; omega)]
theorem stK_zero (l : List Nat) : stK l 0 = 0 := rfl
theorem cdK_zero (l : List Nat) : cdK l 0 = [] := rfl
theorem tailed_el {xs : List Int} (h : xs.all isBit = true) {k : Nat} (hk : k < (xs ++ [0, 0]).length) : el (xs ++ [0, 0]) k = ((tailed xs).getD k 0 : Nat) := by
  have e : tailed xs = nats (xs ++ [0, 0]) := by simp [tailed, nats]
  have hb : (xs ++ [0, 0]).all isBit = true := by rw [List.all_append, h]; rfl
  rw [e, nats_get]
  rcases isBit_cases (List.all_eq_true.1 hb _ (el_mem hk)) with e | e <;> rw [e] <;> rfl
theorem bit_at {l : List Nat} (h : Bits2 l) (k : Nat) : l.getD k 0 < 2 := by
  rw [List.getD_eq_getElem?_getD]
  cases e : l[k]? with
  | none => simp
  | some x => exact h x (List.mem_of_getElem? e)
theorem ints_pair {w : World} {g a b : Nat} {t : TypeId} {fr : Nat × Nat} (h : w.heap[g]? = some (.cells #[.int .i64 a, .int .i64 b] t fr)) : Ints .i64 w w.heap.size (some ⟨g, 0, none⟩) [(a : Int), b] := fun _ =>
  ⟨g, 0, rfl, lt_of_heap h, fun i hi => by
    have hi2 : i < 2 := hi
    rw [Nat.zero_add]
    match i, hi2 with
    | 0, _ | 1, _ => exact cell_of_row _ _ _ _ _ _ h⟩
section
variable {w : World} {ops : Array Oper} {rest : List Oper} {o : Oper} {a : Act} {Q : Exit → Act → World → Prop}
/-- Two numbers appended to a slice in block g that has room for them: it stays in g, no other block changes. -/
theorem wpList_append_pair (s x : Operand) (base g h n cap : Nat) (xs : List Int) (u v : Int)
    (hgd : o.guard = none) (ho : o.op = .call { callee := .builtin .append, args := #[s, x], argTypes := #[23, 23] }) (hs : a.eval s = .slice (some ⟨g, 0, none⟩) n cap) (hx : a.eval x = .slice (some ⟨h, 0, none⟩) 2 2)
    (hg : Grow .i64 3 w base (some ⟨g, 0, none⟩) n cap xs) (hc0 : w.cell? ⟨h, 0, none⟩ = some (.int .i64 u)) (hc1 : w.cell? ⟨h, 1, none⟩ = some (.int .i64 v)) (hroom : n + 2 ≤ cap)
    (hk : ∀ w', Grow .i64 3 w' base (some ⟨g, 0, none⟩) (n + 2) cap (xs ++ [u, v]) → w.grownBy w' (some g) → wpList Tryd.prog ops Q rest (a.put o.dst (.slice (some ⟨g, 0, none⟩) (n + 2) cap)) w') : wpList Tryd.prog ops Q (o :: rest) a w := by
  obtain ⟨i0, hi0, hz0, hz1, hz2⟩ := info_parts Tryd.infoInt
  have hnews : ∀ j y, [Value.int .i64 u, .int .i64 v][j]? = some y → w.cell? ((⟨h, 0, none⟩ : Addr).add j) = some y := fun j y hj => by
    match j, hj with
    | 0, hj => simp at hj; subst hj; simpa [Addr.add] using hc0
    | 1, hj => simp at hj; subst hj; simpa [Addr.add] using hc1
  have hmap : (xs ++ [u, v]).map (Value.int .i64) = xs.map (Value.int .i64) ++ [Value.int .i64 u, .int .i64 v] := by simp
  obtain ⟨w', hr, h2, h3⟩ := run_append_own_spare (P := Tryd.prog) w base 23 o.type 3 i0 1 Tryd.underlying23 hi0 hz1 g n cap (xs.map (Value.int .i64)) hg ⟨h, 0, none⟩ 2 2 [.int .i64 u, .int .i64 v] rfl hnews (by simp [Value.oneCell']) hroom
  refine Lib.wpList_append_run w hgd s x _ _ ho _ _ hs hx _ _ hr (hk w' ?_ h3)
  unfold Grow; rw [hmap]; exact h2
end
theorem Grow.blockBound {k : IntKind} {t : TypeId} {W : World} {base g n cap : Nat} {xs : List Int} (h : Grow k t W base (some ⟨g, 0, none⟩) n cap xs) : base ≤ g ∧ g < W.heap.size := World.ownsRow.lt h g rfl
/-- Within EncodeStream: the code so far, and the list that is gone through, in a block behind the code's. -/
def ES7 (w W : World) (g n cap D C : Nat) (v : Option Addr) (L cs : List Int) : Prop :=
  Grow .i64 3 W w.heap.size (some ⟨g, 0, none⟩) n cap cs ∧ Own .i64 3 W D C v L ∧ g < D ∧ Below w.heap.size w W
theorem ES7.next {w W W' : World} {g n cap D C : Nat} {v : Option Addr} {L cs : List Int} (h : ES7 w W g n cap D C v L cs) (hb : Below W.heap.size W W') : ES7 w W' g n cap D C v L cs :=
  ⟨h.1.below hb, h.2.1.next hb, h.2.2.1, Below.next h.2.2.2 (Nat.le_refl _) hb⟩
theorem ES7.grown {w W W' : World} {g n cap n' D C : Nat} {v : Option Addr} {L cs cs' : List Int} (h : ES7 w W g n cap D C v L cs) (hg : Grow .i64 3 W' w.heap.size (some ⟨g, 0, none⟩) n' cap cs') (hw : W.grownBy W' (some g)) : ES7 w W' g n' cap D C v L cs' :=
  ⟨hg, h.2.1.keep (KeptOut.of_grown hw (Nat.le_refl g) (Nat.lt_succ_self g)) (.inr h.2.2.1), h.2.2.1, h.2.2.2.grown hw h.2.2.2.size (fun k e => by injection e with e; subst e; exact h.1.blockBound.1)⟩
set_option maxHeartbeats 1000000 in
theorem encodeStream_any (a : Option Addr) (c : Nat) (xs : List Int) (w : World) (hx : Ints .i64 w w.heap.size a xs) (hm : xs.length ≤ maxLen) (hT : StrTabs w) :
    Calls Tryd.prog 12 #[.slice a xs.length c] w (ListPostC (strOr xs) w) := by
  have HV := Lib.hid (bitsValid_any a c w.heap.size xs w hx (Nat.le_refl _))
  unfold maxLen at hm
  by_cases hl : 40 < xs.length
  · have HE := Lib.hid (strOr_no (xs := xs) (by simp [strOk]; omega))
    clear hx hT
    go_enter Tryd.func12, Tryd.ntmps12
    go_wp2
    go_ret
    rw [HE.out]
    exact listPostC_nil (Below.refl _ _)
  · cases hb : bitsOk xs
    · have HE := Lib.hid (strOr_no (xs := xs) (by simp [strOk, hb]))
      rw [hb] at HV
      clear hx hT hb
      go_enter Tryd.func12, Tryd.ntmps12
      go_wp2_with (go_at_call 35; refine HV.out.mono ?_; rintro e w1 ⟨rfl, b1⟩; have B1 := Lib.hid b1; clear b1)
      go_ret
      rw [HE.out]
      exact listPostC_nil B1.out
    · have hbits := (bitsOk_parts hb).2
      have HE := Lib.hid (strOr_yes (strOk_mk (by omega) hbits))
      have HT2 := Lib.hid (tailed_bits hbits)
      have HTE := Lib.hid (fun k hk => tailed_el (xs := xs) (k := k) hbits hk)
      rw [hb] at HV
      have HX := Lib.hid hx
      have HT := Lib.hid hT
      obtain ⟨m, hmm⟩ : ∃ m, m = 2 * (xs.length + 2) := ⟨_, rfl⟩
      have hmk : ∀ W, (Instr.makeSlice 23 (.int .i64 0) (.int .i64 (2 * ((xs.length : Int) + 2)))).run Tryd.prog W = .ok (.slice (some ⟨W.heap.size, 0, none⟩) 0 m) (W.alloc (.cells (madeCells #[.int .i64 0] m) 3)) := fun W => by
        rw [show 2 * ((xs.length : Int) + 2) = (m : Int) by omega]; exact makeG m (by omega) W
      have hmk2 : ∀ W, (Instr.makeSlice 23 (.int .i64 2) (.int .i64 2)).run Tryd.prog W = .ok (.slice (some ⟨W.heap.size, 0, none⟩) 2 2) (W.alloc (.cells (madeCells #[.int .i64 0] 2) 3)) := run_make_row' (P := Tryd.prog) 23 3 (.int .i64 0) 8 Tryd.underlying23 Tryd.infoInt rfl .i64 .i64 2 (by omega) (by omega)
      have HM := Lib.hid hmm
      clear hx hT hb hmm hbits
      go_enter Tryd.func12, Tryd.ntmps12
      go_wp2_with (go_at_call 35; refine HV.out.mono ?_; rintro e w1 ⟨rfl, b1⟩; have B1 := Lib.hid b1; clear b1)
      clear hmk hmk2 HV
      have G1 := Lib.hid (Grow.madeG w1 w.heap.size m (by have := HM.out; omega) B1.out.size)
      have hs1 : w.heap.size ≤ w1.heap.size := B1.out.size
      obtain ⟨W2, hW2⟩ : ∃ W, W = w1.alloc (.cells (madeCells #[.int .i64 0] m) 3) := ⟨_, rfl⟩
      have hz2 : W2.heap.size = w1.heap.size + 1 := by rw [hW2]; simp
      have G2 : Hid (Grow .i64 3 W2 w.heap.size (some ⟨w1.heap.size, 0, none⟩) 0 m []) := by rw [hW2]; exact G1.out
      have B2 : Hid (Below w.heap.size w W2) := by rw [hW2]; exact B1.out.alloc hs1 _
      obtain ⟨W3, hW3⟩ : ∃ W, W = W2.alloc (.cells (madeCells #[.int .i64 0] 2) 3) := ⟨_, rfl⟩
      have hz3 : W3.heap.size = W2.heap.size + 1 := by rw [hW3]; simp
      have I3 : Hid (Ints .i64 W3 W3.heap.size (some ⟨w1.heap.size + 1, 0, none⟩) [0, 0]) := by
        show Ints .i64 W3 W3.heap.size _ _
        rw [← hz2, hW3, show madeCells #[Value.int .i64 0] 2 = #[.int .i64 ((0 : Nat) : Int), .int .i64 ((0 : Nat) : Int)] from by kernel_rfl]
        exact ints_pair (a := 0) (b := 0) (heap_alloc_last W2 _)
      have B3 : Hid (Below W2.heap.size W2 W3) := by rw [hW3]; exact below_new _ _
      rw [← hW2, ← hW3, ← hz2, ← hz3]
      rw [← hz2] at I3
      obtain ⟨L, hL⟩ : ∃ L, L = xs ++ [0, 0] := ⟨_, rfl⟩
      have hLn : L.length = xs.length + 2 := by rw [hL]; simp
      have h4 := slicesConcat_any W3.heap.size a (some ⟨W2.heap.size, 0, none⟩) c 2 xs [0, 0] (W3.alloc (.cells #[.slice a xs.length c, .slice (some ⟨W2.heap.size, 0, none⟩) 2 2] 23)) (cell_of_row _ _ 0 _ _ _ (heap_alloc_last _ _)) (cell_of_row _ _ 1 _ _ _ (heap_alloc_last _ _)) (by simp)
        ((((HX.out.next B2.out).next B3.out).next (below_new _ _))) (I3.out.next (below_new _ _)) (by simp) (by show xs.length + 2 < 1048576; omega)
      rw [← hL] at h4
      have HL := Lib.hid hL
      clear hL hW2 hW3
      refine h4.mono ?_
      rintro e w4 ⟨v4, cv4, rfl, hr4, ho4, hb4⟩
      have hb5 : Below W2.heap.size W2 w4 := Below.next (Below.next B3.out (Nat.le_refl _) (below_new W3 _)) (Nat.le_refl _) hb4
      have ho5 := own_of_list ho4
      obtain ⟨g, hg⟩ : ∃ g, g = w1.heap.size := ⟨_, rfl⟩
      have hgD : g < (W3.alloc (.cells #[.slice a xs.length c, .slice (some ⟨W2.heap.size, 0, none⟩) 2 2] 23)).heap.size := by rw [hg]; simp; omega
      rw [← hg] at G2
      have E4 : Hid (ES7 w w4 g 0 m _ _ v4 L []) := ⟨G2.out.below hb5, ho5, hgD, Below.next B2.out (Nat.le_refl _) hb5⟩
      generalize (W3.alloc (.cells #[.slice a xs.length c, .slice (some ⟨W2.heap.size, 0, none⟩) 2 2] 23)).heap.size = D at *
      generalize w4.heap.size = C at *
      rw [← hg]
      have HGE := Lib.hid hg
      clear hg hr4 ho4 hb4 hb5 ho5 h4
      obtain ⟨T, hT⟩ : ∃ T, T = tailed xs := ⟨_, rfl⟩
      have hTl : T.length = xs.length + 2 := by rw [hT, tailed_length]
      have HTB : Hid (Bits2 T) := by rw [hT]; exact HT2.out
      have HTL : Hid (∀ k, k < xs.length + 2 → el L k = (T.getD k 0 : Nat)) := fun k hk => by rw [HL.out, hT]; exact HTE.out k (by simp; omega)
      have HTT := Lib.hid (And.intro hT hTl)
      clear hT hTl HT2 HTE
      go_wp2
      go_loopw [3, 4, 26] (fun s st i wr => ∃ k n : Nat, (k ≤ xs.length + 2 ∧ n = 2 * k) ∧ i = .int .i64 (k : Nat) ∧ st = .int .i64 (stK T k : Nat) ∧ s = .slice (some ⟨g, 0, none⟩) n m ∧ ES7 w wr g n m D C v4 L (cdK T k)) (fun _ _ i _ => xs.length + 2 - (intOf i).toNat)
      case atStart => exact ⟨0, 0, ⟨by omega, rfl⟩, rfl, rfl, rfl, E4.out⟩
      case round =>
        obtain ⟨k, n, ⟨hk, hn⟩, rfl, rfl, rfl, hes⟩ := hrel
        have HES := Lib.hid hes
        clear hes
        by_cases hlt : k < xs.length + 2
        · have hcell := HES.out.2.1.ints.at_ (i := k) (by rw [hLn]; exact hlt)
          rw [HTL.out k hlt] at hcell
          obtain ⟨b, off, rfl, _, hc⟩ := hcell
          have hTab := HT.out.next HES.out.2.2.2
          have hx2 := bit_at HTB.out k
          have hs4 := stK_lt HTB.out k
          have HN := Lib.hid (And.intro (stK_next HTB.out (k := k) (by rw [HTT.out.2]; exact hlt)) (cdK_next HTB.out (k := k) (by rw [HTT.out.2]; exact hlt)))
          generalize T.getD k 0 = x at *
          generalize stK T k = s at *
          have c0 := hTab.1.2 s x 0 hs4 hx2 (by omega)
          have c1 := hTab.1.2 s x 1 hs4 hx2 (by omega)
          have HC2 := Lib.hid (hTab.2.2 s x hs4 hx2)
          have hn4 := nxN_lt hs4 hx2
          generalize prN s x 0 = p0 at *
          generalize prN s x 1 = p1 at *
          obtain ⟨y, hy⟩ : ∃ y, y = nxN s x := ⟨_, rfl⟩
          have HY := Lib.hid hy
          rw [← hy] at hn4 HN
          clear hy HC2
          rw [Nat.add_zero] at c0
          have HTb := Lib.hid hTab
          have HS5 := Lib.hid (HES.out.next ((below_new wr (.cells #[.int .i64 p0, .int .i64 p1] 43)).alloc (by simp) (.cells #[.int .i64 p0, .int .i64 p1] 3)))
          have hroom : n + 2 ≤ m := by have := HM.out; omega
          have HNN := Lib.hid hn
          have hn1k : n ≤ 84 := by omega
          have k0 : ((wr.alloc (.cells #[.int .i64 p0, .int .i64 p1] 43)).alloc (.cells #[.int .i64 p0, .int .i64 p1] 3)).cell? ⟨wr.heap.size + 1, 0, none⟩ = some (.int .i64 (p0 : Int)) := cell_of_row _ _ 0 _ _ _ (heap_last2 wr _ _)
          have k1 : ((wr.alloc (.cells #[.int .i64 p0, .int .i64 p1] 43)).alloc (.cells #[.int .i64 p0, .int .i64 p1] 3)).cell? ⟨wr.heap.size + 1, 1, none⟩ = some (.int .i64 (p1 : Int)) := cell_of_row _ _ 1 _ _ _ (heap_last2 wr _ _)
          have HK := Lib.hid (And.intro k0 k1)
          clear hTab hn k0 k1
          go_wp2_with (at_builtin; refine wpList_append_pair (.tmp 35) (.tmp 40) w.heap.size g (wr.heap.size + 1) n m (cdK T k) p0 p1 rfl rfl rfl rfl HS5.out.1 HK.out.1 HK.out.2 hroom ?_; intro w5 hg5 hw5; rw [HN.out.2] at hg5; have HS6 := Lib.hid (HS5.out.grown hg5 hw5); have c2 := (HT.out.next HS6.out.2.2.2).2.2 s x hs4 hx2; rw [← HY.out] at c2; clear hg5 hw5)
          go_roundw
          case rel => exact ⟨k + 1, n + 2, ⟨by omega, by have := HNN.out; omega⟩, by go_num, by rw [← HN.out.1], rfl, HS6.out⟩
          case measure => simp [intOf]; omega
        · have HKK : Hid (k = xs.length + 2) := by show k = _; omega
          have HNN := Lib.hid hn
          clear hn
          go_wp2
          go_ret
          have hes := HES.out
          rw [HKK.out, HTT.out.1, cdK_all] at hes
          rw [HE.out]
          exact listPostC_grow hes.1 hes.2.2.2

/-- The survivor behind k bits lies in memory. -/
def NodeK (w : World) (b : Nat) (l : List Nat) (k : Nat) : Prop := ∃ c, Node w b c (l.drop k)
theorem NodeK.cells {w W : World} {b k : Nat} {l : List Nat} (h : NodeK w b l k) (hk : k < l.length) (hb : Below w.heap.size w W) :
    W.cell? ⟨b, 0, none⟩ = some (.int .i64 ((l.getD k 0 : Nat) : Int)) ∧ ∃ b', W.cell? ⟨b, 2, none⟩ = some (.pointer (some ⟨b', 0, none⟩)) ∧ NodeK w b' l (k + 1) := by
  obtain ⟨c, h⟩ := h
  have e : l.drop k = l.getD k 0 :: l.drop (k + 1) := by
    rw [List.drop_eq_getElem_cons hk]; simp [hk]
  rw [e] at h
  obtain ⟨h1, h2, b', c', h3, h4⟩ := h
  exact ⟨(hb.cell h1.1).trans h2, b', (hb.cell h1.1).trans h3, c', h4⟩
/-- The bits so far, in a new row. -/
def bitRow (l : List Nat) (k j : Nat) : Value := .int .i64 (if j < k then ((l.getD j 0 : Nat) : Int) else 0)
theorem bitRow_set {w : World} {g t n k : Nat} {l : List Nat} (h : w.rowIs g t n (bitRow l k)) : (w.setCell ⟨g, k, none⟩ (.int .i64 ((l.getD k 0 : Nat) : Int))).rowIs g t n (bitRow l (k + 1)) :=
  (h.set k (.int .i64 ((l.getD k 0 : Nat) : Int))).congr (by
    intro j hj
    unfold bitRow
    by_cases e : j = k
    · subst e; simp
    · simp only [e, if_false]
      by_cases h2 : j < k
      · simp [h2, Nat.lt_succ_of_lt h2]
      · simp [h2, show ¬ j < k + 1 by omega])
set_option maxHeartbeats 1000000 in
theorem decodeStream_any (a : Option Addr) (c : Nat) (xs : List Int) (w : World) (hx : Ints .i64 w w.heap.size a xs) (hm : xs.length ≤ maxLen) (hT : StrTabs w) :
    Calls Tryd.prog 18 #[.slice a xs.length c] w (ListPostC (decOr7 xs) w) := by
  have HS := Lib.hid (streamSurvivor_any a c xs w hx hm hT)
  clear hx hT hm
  cases hok : codedOk xs
  · have HE := Lib.hid (decOr7_no hok)
    have HC : Hid (Calls Tryd.prog 43 #[.slice a xs.length c] w fun e w' => e = .returned (.pointer none) ∧ Below w.heap.size w w') := by
      refine HS.out.mono fun e w' h => ?_
      unfold SurvPost at h
      rw [hok] at h
      exact h
    clear HS hok
    go_enter Tryd.func18, Tryd.ntmps18
    go_wp2_with (go_at_call 43; refine HC.out.mono ?_; rintro e w1 ⟨rfl, b1⟩; have B1 := Lib.hid b1; clear b1)
    go_ret
    rw [HE.out]
    exact listPostC_nil B1.out
  · have HE := Lib.hid (decOr7_yes hok)
    have hlen := decL7_length xs
    have hal := allS_length xs
    obtain ⟨l1, l2, l3, _⟩ := codedOk_parts hok
    have HC : Hid (Calls Tryd.prog 43 #[.slice a xs.length c] w fun e w' => (∃ b, e = .returned (.pointer (some ⟨b, 0, none⟩)) ∧ NodeK w' b (allS (prs xs)) 0) ∧ Below w.heap.size w w') := by
      refine HS.out.mono fun e w' h => ?_
      unfold SurvPost at h
      rw [hok] at h
      obtain ⟨⟨b, h1, h2⟩, h3⟩ := h
      exact ⟨⟨b, h1, _, h2⟩, h3⟩
    obtain ⟨l, hl⟩ : ∃ l, l = allS (prs xs) := ⟨_, rfl⟩
    rw [← hl] at HC hal
    obtain ⟨n, hn⟩ : ∃ n, n = xs.length / 2 - 2 := ⟨_, rfl⟩
    have hn40 : n ≤ 40 := by omega
    have hmk : ∀ W, (Instr.makeSlice 23 (.int .i64 ((xs.length : Int) / 2 - 2)) (.int .i64 ((xs.length : Int) / 2 - 2))).run Tryd.prog W = .ok (.slice (some ⟨W.heap.size, 0, none⟩) n n) (W.alloc (.cells (madeCells #[.int .i64 0] n) 3)) := fun W => by
      rw [show (xs.length : Int) / 2 - 2 = (n : Int) by omega]
      exact run_make_row' (P := Tryd.prog) 23 3 (.int .i64 0) 8 Tryd.underlying23 Tryd.infoInt rfl .i64 .i64 n (by omega) (by omega) W
    have HF : Hid (decL7 xs = ints (l.take n)) := by show decL7 xs = _; rw [decL7, ← hl, ← hn]
    have HN := Lib.hid (And.intro hn (And.intro (show n < l.length by omega) (show (ints (l.take n)).length = n by rw [ints_length, List.length_take]; omega)))
    clear HS hok hl hlen hal hn
    go_enter Tryd.func18, Tryd.ntmps18
    go_wp2_with (go_at_call 43; refine HC.out.mono ?_; rintro e w1 ⟨⟨b, rfl, hn⟩, b1⟩; have B1 := Lib.hid b1; have HK0 := Lib.hid hn; clear b1 hn)
    clear hmk HC
    go_loopw [3, 17] (fun p i wr => ∃ (k b : Nat), k ≤ n ∧ i = .int .i64 (k : Nat) ∧ p = .pointer (some ⟨b, 0, none⟩) ∧ NodeK w1 b l k ∧ wr.rowIs w1.heap.size 3 n (bitRow l k) ∧ Below w1.heap.size w1 wr) (fun _ i _ => n - (intOf i).toNat)
    case atStart => exact ⟨0, b, Nat.zero_le _, rfl, rfl, HK0.out, (World.rowIs_made w1 _ _ _).congr (by intro j hj; simp [bitRow]), below_new w1 _⟩
    case round =>
      obtain ⟨k, b, hk, rfl, rfl, hnode, hrow, hbel⟩ := hrel
      by_cases hlt : k < n
      · obtain ⟨c0, b', c2, hnode'⟩ := hnode.cells (by have := HN.out.2.1; omega) hbel
        have HX := Lib.hid hnode'
        have hf := hrow.frozen k
        have hcell : wr.cell? ⟨w1.heap.size, k, none⟩ = some (.int .i64 0) := by rw [hrow.cell hlt]; simp [bitRow]
        have R1 := Lib.hid (bitRow_set hrow)
        have R2 := Lib.hid (hbel.setCell (p := ⟨w1.heap.size, k, none⟩) (Nat.le_refl _) (.int .i64 ((l.getD k 0 : Nat) : Int)))
        have hbne : b ≠ w1.heap.size := by
          obtain ⟨c, h⟩ := hnode
          have := h.head.1
          omega
        generalize l.getD k 0 = x at *
        clear hnode hnode' hrow hbel
        go_wp2
        go_roundw
        case rel => exact ⟨k + 1, b', by omega, by go_num, rfl, HX.out, R1.out, R2.out⟩
        case measure => simp [intOf]; omega
      · have HKN : Hid (k = n) := by show k = n; omega
        have R1 : Hid (wr.rowIs w1.heap.size 3 n fun j => .int .i64 (el (decL7 xs) j)) := hrow.congr (by
          intro j hj
          rw [HF.out, ints_el]
          simp only [bitRow, show j < k by omega, if_true]
          congr 2
          simp [hj])
        have R2 := Lib.hid (Below.next B1.out (Nat.le_refl _) hbel)
        clear hnode hrow hbel
        go_wp2
        go_ret
        rw [HE.out]
        exact listPostC_row R1.out (by rw [HF.out]; exact HN.out.2.2.symm) (by unfold maxLen; omega) B1.out.size R2.out
set_option maxHeartbeats 1000000 in
theorem streamErrors_any (a : Option Addr) (c : Nat) (xs : List Int) (w : World) (hx : Ints .i64 w w.heap.size a xs) (hm : xs.length ≤ maxLen) (hT : StrTabs w) :
    Calls Tryd.prog 19 #[.slice a xs.length c] w fun e w' => e = .returned (.int .i64 (errOr7 xs)) ∧ Below w.heap.size w w' := by
  have HS := Lib.hid (streamSurvivor_any a c xs w hx hm hT)
  clear hx hT
  cases hok : codedOk xs
  · have HE := Lib.hid (errOr7_no hok)
    have HC : Hid (Calls Tryd.prog 43 #[.slice a xs.length c] w fun e w' => e = .returned (.pointer none) ∧ Below w.heap.size w w') := by
      refine HS.out.mono fun e w' h => ?_
      unfold SurvPost at h
      rw [hok] at h
      exact h
    clear HS hok
    go_enter Tryd.func19, Tryd.ntmps19
    go_wp2_with (go_at_call 43; refine HC.out.mono ?_; rintro e w1 ⟨rfl, b1⟩; have B1 := Lib.hid b1; clear b1)
    go_ret
    exact ⟨ret_int HE.out.symm, B1.out⟩
  · have HE := Lib.hid (errOr7_yes hok)
    have HC : Hid (Calls Tryd.prog 43 #[.slice a xs.length c] w fun e w' => (∃ b, e = .returned (.pointer (some ⟨b, 0, none⟩)) ∧ Node w' b (errS (prs xs)) (allS (prs xs))) ∧ Below w.heap.size w w') := by
      refine HS.out.mono fun e w' h => ?_
      unfold SurvPost at h
      rw [hok] at h
      exact h
    clear HS hok
    go_enter Tryd.func19, Tryd.ntmps19
    go_wp2_with (go_at_call 43; refine HC.out.mono ?_; rintro e w1 ⟨⟨b, rfl, hn⟩, b1⟩; have B1 := Lib.hid b1; have hc := hn.head.2; clear b1 hn)
    go_ret
    exact ⟨ret_int HE.out.symm, B1.out⟩
end Go.Proofs.YtnjjblcigcblhaaDoor
