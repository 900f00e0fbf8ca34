/-
  The law of BitsValid, walked: it returns true for every code, and writes into nothing that was there.
-/
import Derived.Test.YtnedhpodfjlnmaaLaw1
namespace Go.Proofs.Ytnedhpodfjlnmaa
open Go.RowKit

section
variable {w : World} {ops : Array Oper} {rest : List Oper} {o : Oper} {a : Act} {Q : Exit → Act → World → Prop}
theorem wpList_wanted {P : Program} (hw : Region.wanted o (yielded ops a.tmps) = true) (h : ∀ K : Act → World → Prop, (∀ a w, wpList P ops Q rest a w → K a w) → o.wp P a w K Q) : wpList P ops Q (o :: rest) a w :=
  wpList_step fun K hK => by rw [if_pos hw]; exact h K hK
theorem wpList_append1g (s x : Operand) (base : Nat) (A : Option Addr) (n cap : Nat) (xs : List Int) (ad : Addr) (v : Int)
    (hw : Region.wanted o (yielded ops a.tmps) = true) (ho : o.op = .call { callee := .builtin .append, args := #[s, x], argTypes := #[23, 23] }) (hs : a.eval s = .slice A n cap) (hx : a.eval x = .slice (some ad) 1 1)
    (hg : Grow .i64 3 w base A n cap xs) (hc : w.cell? ad = some (.int .i64 v)) (hn : n < 1099511627776) (hb : base ≤ w.heap.size)
    (h : ∀ a' cap' w', Grow .i64 3 w' base a' (n + 1) cap' (xs ++ [v]) → Below base w w' → wpList Try.prog ops Q rest (a.put o.dst (.slice a' (n + 1) cap')) w') : wpList Try.prog ops Q (o :: rest) a w := by
  refine wpList_wanted hw fun K hK => ?_
  obtain ⟨i0, hi0, hz0, hz1, hz2⟩ := info_parts Try.infoInt
  refine wp_append_own w s x _ ho base 3 i0 (.int .i64 0) 1 8 Try.underlying23 hi0 hz0 hz1 hz2 rfl (by omega) _ n _ hs hg ad 1 1 [.int .i64 v] hx rfl ?_ (by simp [Value.oneCell']) (by unfold maxLen; omega) (by omega) hb ?_
  · intro j u hj
    match j, hj with
    | 0, hj => simp at hj; subst hj; simpa [Addr.add] using hc
  · intro v' w' h2 h3 _
    obtain ⟨a', cap', rfl, hgr, hbl⟩ := grow_of_own hg hb h2 h3
    exact hK _ _ (h _ _ _ hgr hbl)
theorem wpList_appendSg (s x : Operand) (base : Nat) (A : Option Addr) (n cap : Nat) (xs ys : List Int) (ad : Addr) (m c B : Nat)
    (hw : Region.wanted o (yielded ops a.tmps) = true) (ho : o.op = .call { callee := .builtin .append, args := #[s, x], argTypes := #[23, 23] }) (hs : a.eval s = .slice A n cap) (hx : a.eval x = .slice (some ad) m c)
    (hg : Grow .i64 3 w base A n cap xs) (hy : Ints .i64 w B (some ad) ys) (hm : ys.length = m) (hn : n + m < 1099511627776) (hb : base ≤ w.heap.size)
    (h : ∀ a' cap' w', Grow .i64 3 w' base a' (n + m) cap' (xs ++ ys) → Below base w w' → a' ≠ none ∨ A = none → wpList Try.prog ops Q rest (a.put o.dst (.slice a' (n + m) cap')) w') : wpList Try.prog ops Q (o :: rest) a w := by
  refine wpList_wanted hw fun K hK => ?_
  obtain ⟨i0, hi0, hz0, hz1, hz2⟩ := info_parts Try.infoInt
  refine wp_append_own w s x _ ho base 3 i0 (.int .i64 0) 1 8 Try.underlying23 hi0 hz0 hz1 hz2 rfl (by omega) _ n _ hs hg ad m c (ys.map (Value.int .i64)) hx (by simp [hm]) ?_ (ints_oneCell _ _) (by unfold maxLen; omega) (by omega) hb ?_
  · intro j u hj
    have hjl : j < ys.length := by have := (List.getElem?_eq_some_iff.1 hj).1; simpa using this
    obtain ⟨b, off, e, _, hc⟩ := hy.at_ hjl
    injection e with e
    subst e
    have hadd : (⟨b, off, none⟩ : Addr).add j = ⟨b, off + j, none⟩ := by unfold Addr.add; split <;> simp_all
    rw [hadd, hc]
    simp [hjl] at hj
    rw [← hj, el_lt hjl]
  · intro v' w' h2 h3 h4
    have hlen : (xs.map (Value.int .i64) ++ ys.map (Value.int .i64)) = (xs ++ ys).map (Value.int .i64) := by simp
    rw [hlen] at h2
    have hsh : ∃ a' cap', v' = .slice a' (n + m) cap' := by
      rcases h2.2 with ⟨e, h0⟩ | ⟨g, c', cur, e, _⟩
      · exact ⟨none, 0, by rw [e, h0]⟩
      · exact ⟨_, _, e⟩
    obtain ⟨a', cap', rfl⟩ := hsh
    refine hK _ _ (h a' cap' w' h2 ((Below.refl _ _).grown h3 hb hg.own) ?_)
    by_cases hA : A = none
    · exact .inr hA
    · refine .inl fun e => ?_
      subst e
      rcases h2.2 with ⟨e, h0⟩ | ⟨g, c', cur, e, _⟩
      · have := (h4.1 e).1
        injection this with e1
        exact hA e1
      · injection e with e1; cases e1
end
def OnePost (w : World) (e : Ending) (w' : World) : Prop :=
  ∃ xs ad c, e = .returned (.slice (some ad) xs.length c) ∧ xs.length ≤ 1025 ∧ xs.length ≤ c ∧ Ints .i64 w' w'.heap.size (some ad) xs ∧ Below w.heap.size w w'
theorem Grow.cap_le {k : IntKind} {t : TypeId} {w : World} {base n cap : Nat} {a : Option Addr} {xs : List Int} (h : Grow k t w base a n cap xs) : n ≤ cap := by
  rcases h.2 with ⟨e, h0⟩ | ⟨g, c, cur, e, hg, hh, hnc, _⟩
  · omega
  · injection e with _ _ e3; omega
set_option maxHeartbeats 400000 in
theorem drawBitsValid_any (a : Option Addr) (c : Nat) (ds : List Int) (w : World) (hx : Ints .u8 w w.heap.size a ds) (hw : ∀ n ∈ ds, isByte n) (hc : ds.length ≤ c) (hcm : c ≤ maxLen) :
    Calls Try.prog 14 #[.slice a ds.length c] w (OnePost w) := by
  have hl : ds.length ≤ maxLen := Nat.le_trans hc hcm
  have hm0 : ∀ W : World, (Instr.makeSlice 23 (.int .i64 1024) (.int .i64 1024)).run Try.prog W = .ok (.slice (some ⟨W.heap.size, 0, none⟩) 1024 1024) (W.alloc (.cells (madeCells #[.int .i64 0] 1024) 3)) :=
    run_make_row' (P := Try.prog) 23 3 (.int .i64 0) 8 Try.underlying23 Try.infoInt rfl .i64 .i64 1024 (by omega) (by omega)
  have hm1 : ∀ W : World, (Instr.makeSlice 23 (.int .i64 1025) (.int .i64 1025)).run Try.prog W = .ok (.slice (some ⟨W.heap.size, 0, none⟩) 1025 1025) (W.alloc (.cells (madeCells #[.int .i64 0] 1025) 3)) :=
    run_make_row' (P := Try.prog) 23 3 (.int .i64 0) 8 Try.underlying23 Try.infoInt rfl .i64 .i64 1025 (by omega) (by omega)
  have HM0 := Lib.hid hm0
  have HM1 := Lib.hid hm1
  clear hm0 hm1
  go_enter Try.func14, Try.ntmps14
  go_wp2_with fail
  refine (open_any a c ds w hx hw hc hl hcm).mono ?_
  rintro e w1 ⟨rfl, r1, b1⟩
  have R1 := Lib.hid r1
  have B1 := Lib.hid b1
  clear hx hw hc hcm hl r1 b1
  go_wp2_with fail
  refine (odd_any w.heap.size 0 9 w1 R1.out (by omega) (by omega) (by omega)).mono ?_
  rintro e w2 ⟨b2, rfl, r2, g2⟩
  have R2 := Lib.hid r2
  have B2 := Lib.hid (B1.out.grown g2 B1.out.size (fun k e => by injection e; omega))
  clear r2 g2 R1 B1
  cases b2
  · go_wp2_with fail
    refine (bits_any w.heap.size (0 + 1) 20 2 w2 R2.out (by omega) (by omega) (by omega) (by omega)).mono ?_
    rintro e w3 ⟨xs, ad, n, cap, p', rfl, hn, hsm, hgr, hrd, hp', hgn⟩
    have hlen := hgr.len
    have HP : Hid (OnePost w (.returned (.slice (some ad) n cap)) w3) := ⟨xs, ad, cap, by rw [hlen], by omega, by have := hgr.cap_le; omega, hgr.ints, B2.out.grown hgn B2.out.size (fun k e => by injection e; omega)⟩
    clear hlen hsm hgr hrd hgn
    go_wp2
    go_ret
    exact HP.out
  · go_wp2_with fail
    refine (pick_any w.heap.size (0 + 1) 2 w2 R2.out (by omega) (by omega) (by omega)).mono ?_
    rintro e w3 ⟨v3, ⟨hv3, hv3'⟩, rfl, r3, g3⟩
    have B3 := Lib.hid (B2.out.grown g3 B2.out.size (fun k e => by injection e; omega))
    clear r3 g3
    by_cases hz : v3 = 0
    · subst hz
      have hmk := HM0.out
      go_wp2
      go_ret
      exact ⟨zeros 1024, ⟨w3.heap.size, 0, none⟩, 1024, by rw [zeros_length]; rfl, by rw [zeros_length]; omega, by rw [zeros_length]; omega, (zeros_ints w3 1024).more (by simp), B3.out.alloc B3.out.size _⟩
    · obtain rfl : v3 = 1 := by omega
      have hmk := HM1.out
      go_wp2
      go_ret
      exact ⟨zeros 1025, ⟨w3.heap.size, 0, none⟩, 1025, by rw [zeros_length]; rfl, by rw [zeros_length]; omega, by rw [zeros_length]; omega, (zeros_ints w3 1025).more (by simp), B3.out.alloc B3.out.size _⟩

theorem bitsOk_take {xs : List Int} (h : bitsOk xs = true) (m : Nat) : bitsOk (xs.take m) = true := by
  simp only [bitsOk, Bool.and_eq_true, decide_eq_true_eq, List.all_eq_true] at h ⊢
  exact ⟨by simp; omega, fun x hx => h.2 x (List.mem_of_mem_take hx)⟩
theorem bitsOk_two (xs : List Int) : bitsOk (xs ++ [2]) = false := by
  simp [bitsOk, isBit]

set_option maxHeartbeats 2000000 in
theorem walkBitsValid (a : Option Addr) (c : Nat) (ds : List Int) (w : World) (hx : Ints .u8 w w.heap.size a ds) (hw : ∀ n ∈ ds, (Lit.int .u8 n).wf = true) (hc : ds.length ≤ c) (hcm : c ≤ maxLen) :
    Calls Try.prog 3 #[.slice a ds.length c] w fun e w' => e = .returned (.bool true) ∧ Below w.heap.size w w' := by
  have hb := isByte_of_wf hw
  clear hw
  by_cases hl : ds.length ≤ 1048576
  · go_enter Try.func3, Try.ntmps3
    go_wp2_with fail
    refine (drawBitsValid_any a c ds w hx hb hc hcm).mono ?_
    rintro e w1 ⟨xs, ad, c1, rfl, l1, lc, i1, b1⟩
    have I1 := Lib.hid i1
    have B1 := Lib.hid b1
    clear hx hb hc hcm i1 b1
    have L1 := Lib.hid (show xs.length ≤ maxLen by unfold maxLen; omega)
    go_wp2_with fail
    refine (bitsValid_any (some ad) c1 w1.heap.size xs w1 I1.out (Nat.le_refl _)).mono ?_
    rintro e w2 ⟨rfl, b2⟩
    have I2 := Lib.hid (I1.out.next b2)
    have B2 := Lib.hid (Below.next B1.out (Nat.le_refl _) b2)
    clear b2
    cases hok : bitsOk xs
    · have h1 := specBitsValid_any (some ad) c1 w2.heap.size xs w2 I2.out L1.out
      have h2 := isBits_any (some ad) c1 w2.heap.size xs w2 I2.out L1.out
      rw [hok] at h1 h2
      have H1 := Lib.hid h1
      have H2 := Lib.hid h2
      clear h1 h2 hok
      go_wp2_with fail
      refine H1.out.mono ?_
      rintro e w3 ⟨rfl, rfl⟩
      go_wp2_with fail
      refine H2.out.mono ?_
      rintro e w3 ⟨rfl, rfl⟩
      clear H1 H2
      have hI := Lib.hid (fun o : Obj => Ints.below (w := w2) I2.out ((Below.refl w2.heap.size w2).alloc (Nat.le_refl _) o))
      go_wp2_with (first
        | (at_builtin; refine wpList_appendSg (.tmp 33) (.tmp 34) w2.heap.size (some ⟨w2.heap.size, 0, none⟩) 0 0 [] xs ad xs.length c1 _ rfl rfl rfl rfl (Grow.lit0 _ _ _ _ (Nat.le_refl _)) (hI.out _) rfl (by omega) (by simp) ?_; intro a3 cap3 w3 hg3 hb3 hnn3; have HG3 := Lib.hid hg3; have HB3 := Lib.hid hb3; clear hg3 hb3 hnn3; have hs3 : w2.heap.size ≤ w3.heap.size := by (have := HB3.out.size; simp at this; omega))
        | (at_builtin; refine wpList_append1g (.tmp 35) (.tmp 36) w2.heap.size a3 xs.length cap3 xs ⟨w3.heap.size, 0, none⟩ 2 rfl rfl rfl rfl (by have := HG3.out.alloc (.cells #[.int .i64 2] 3); rw [Nat.zero_add] at this; exact this) (by simp) (by omega) (by simp; omega) ?_; intro a4 cap4 w4 hg4 hb4; have HG4 := Lib.hid hg4; have HB4 := Lib.hid hb4; clear hg4 hb4))
      have h5 := bitsValid_any a4 cap4 w4.heap.size (xs ++ [2]) w4 HG4.out.ints (Nat.le_refl _)
      rw [HG4.out.len, bitsOk_two] at h5
      have H5 := Lib.hid h5
      have B4 := Lib.hid ((B2.out.trans (((Below.refl w2.heap.size w2).alloc (Nat.le_refl _) _).mono B2.out.size)).trans ((HB3.out.mono B2.out.size).trans (((Below.refl w2.heap.size w3).alloc hs3 _).mono B2.out.size)) |>.trans (HB4.out.mono B2.out.size))
      clear h5
      refine H5.out.mono ?_
      rintro e w5 ⟨rfl, b5⟩
      have B5 := Lib.hid (Below.next B4.out (Nat.le_refl _) b5)
      clear b5
      go_wp2_with fail
      refine (alive_any w5).mono ?_
      rintro e w6 ⟨rfl, b6⟩
      have B6 := Lib.hid (Below.next B5.out (Nat.le_refl _) b6)
      clear b6
      go_wp2
      go_ret
      exact ⟨rfl, B6.out⟩
    · have h1 := specBitsValid_any (some ad) c1 w2.heap.size xs w2 I2.out L1.out
      have h2 := isBits_any (some ad) c1 w2.heap.size xs w2 I2.out L1.out
      have h3 := bitsValid_any (some ad) c1 w2.heap.size (xs.take (xs.length / 2)) w2 I2.out.take (Nat.le_refl _)
      have hlt : (xs.take (xs.length / 2)).length = xs.length / 2 := by simp; omega
      rw [bitsOk_take hok, hlt] at h3
      rw [hok] at h1 h2
      have H1 := Lib.hid h1
      have H2 := Lib.hid h2
      have H3 := Lib.hid h3
      clear h1 h2 h3 hok hlt
      have hhalf : xs.length / 2 ≤ c1 := by omega
      go_wp2_with fail
      refine H1.out.mono ?_
      rintro e w3 ⟨rfl, rfl⟩
      go_wp2_with fail
      refine H2.out.mono ?_
      rintro e w3 ⟨rfl, rfl⟩
      clear H1 H2
      go_wp2_with fail
      refine H3.out.mono ?_
      rintro e u2 ⟨rfl, b3⟩
      have J2 := Lib.hid (I2.out.next b3)
      have C2 := Lib.hid (Below.next B2.out (Nat.le_refl _) b3)
      clear b3 H3
      have hI := Lib.hid (fun o : Obj => Ints.below (w := u2) J2.out ((Below.refl u2.heap.size u2).alloc (Nat.le_refl _) o))
      go_wp2_with (first
        | (at_builtin; refine wpList_appendSg (.tmp 33) (.tmp 34) u2.heap.size (some ⟨u2.heap.size, 0, none⟩) 0 0 [] xs ad xs.length c1 _ rfl rfl rfl rfl (Grow.lit0 _ _ _ _ (Nat.le_refl _)) (hI.out _) rfl (by omega) (by simp) ?_; intro a3 cap3 w3 hg3 hb3 hnn3; have HG3 := Lib.hid hg3; have HB3 := Lib.hid hb3; clear hg3 hb3 hnn3; have hs3 : u2.heap.size ≤ w3.heap.size := by (have := HB3.out.size; simp at this; omega))
        | (at_builtin; refine wpList_append1g (.tmp 35) (.tmp 36) u2.heap.size a3 xs.length cap3 xs ⟨w3.heap.size, 0, none⟩ 2 rfl rfl rfl rfl (by have := HG3.out.alloc (.cells #[.int .i64 2] 3); rw [Nat.zero_add] at this; exact this) (by simp) (by omega) (by simp; omega) ?_; intro a4 cap4 w4 hg4 hb4; have HG4 := Lib.hid hg4; have HB4 := Lib.hid hb4; clear hg4 hb4))
      have h5 := bitsValid_any a4 cap4 w4.heap.size (xs ++ [2]) w4 HG4.out.ints (Nat.le_refl _)
      rw [HG4.out.len, bitsOk_two] at h5
      have H5 := Lib.hid h5
      have B4 := Lib.hid ((C2.out.trans (((Below.refl u2.heap.size u2).alloc (Nat.le_refl _) _).mono C2.out.size)).trans ((HB3.out.mono C2.out.size).trans (((Below.refl u2.heap.size w3).alloc hs3 _).mono C2.out.size)) |>.trans (HB4.out.mono C2.out.size))
      clear h5
      refine H5.out.mono ?_
      rintro e w5 ⟨rfl, b5⟩
      have B5 := Lib.hid (Below.next B4.out (Nat.le_refl _) b5)
      clear b5
      go_wp2_with fail
      refine (alive_any w5).mono ?_
      rintro e w6 ⟨rfl, b6⟩
      have B6 := Lib.hid (Below.next B5.out (Nat.le_refl _) b6)
      clear b6
      go_wp2
      go_ret
      exact ⟨rfl, B6.out⟩
  · go_enter Try.func3, Try.ntmps3
    go_wp2
    go_ret
    exact ⟨rfl, Below.refl _ _⟩
end Go.Proofs.Ytnedhpodfjlnmaa
