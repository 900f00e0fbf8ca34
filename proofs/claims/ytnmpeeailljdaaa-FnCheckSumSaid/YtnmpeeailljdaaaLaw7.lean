/-
  The laws of CheckShift and CheckSum, walked: they return true for every code, and write into nothing that was there.
-/
import Derived.Test.YtnmpeeailljdaaaDraw9
import Derived.Test.YtnmpeeailljdaaaLaw2
namespace Go.Proofs.Ytnmpeeailljdaaa
open Go.RowKit

theorem passes_cons {g : Int} {xs : List Int} (h : passes g xs = true) (hl : xs.length ≠ 1024) : passes g ([0] ++ xs) = true := by
  obtain ⟨h1, h2, h3, h4⟩ := passes_parts h
  have := bitsOk_length h1
  refine passes_of (bitsOk_append (by decide) h1 (by simp; omega)) h2 (by simp; omega) ?_
  rw [numOf_append, show numOf [0] = 0 from numOf_zeros 1, Nat.zero_mul, Nat.zero_add, h4]
theorem passes_snoc {g : Int} {xs : List Int} (h : passes g xs = true) (hl : xs.length ≠ 1024) : passes g (xs ++ [0]) = true := by
  obtain ⟨h1, h2, h3, h4⟩ := passes_parts h
  have := bitsOk_length h1
  refine passes_of (bitsOk_append h1 (by decide) (by simp; omega)) h2 (by simp; omega) ?_
  rw [numOf_append, show numOf [0] = 0 from numOf_zeros 1, show ([0] : List Int).length = 1 from rfl, Nat.add_zero, pm_shift (deg_pow h2).1 (deg_pow h2).2, h4, Nat.zero_mul, pm_zero]
theorem Grow.lit1 (t : TypeId) (w : World) (x : Int) : Grow .i64 t (w.alloc (.cells #[.int .i64 x] t)) w.heap.size (some ⟨w.heap.size, 0, none⟩) 1 1 [x] :=
  ⟨rfl, .inr ⟨w.heap.size, 1, _, rfl, Nat.le_refl _, heap_alloc_last _ _, Nat.le_refl _, by unfold maxLen; omega, rfl, rfl⟩⟩
section
variable {w : World} {ops : Array Oper} {rest : List Oper} {o : Oper} {a : Act} {Q : Exit → Act → World → Prop}
theorem wpList_appendAg (s x : Operand) (base : Nat) (A src : Option Addr) (n cap m c B : Nat) (xs ys : List Int)
    (hw : Region.wanted o (yielded ops a.tmps) = true) (ho : o.op = .call { callee := .builtin .append, args := #[s, x], argTypes := #[28, 28] }) (hs : a.eval s = .slice A n cap) (hx : a.eval x = .slice src m c)
    (hg : Grow .i64 3 w base A n cap xs) (hy : Ints .i64 w B src ys) (hm : ys.length = m) (hn : n + m < 1099511627776) (hb : base ≤ w.heap.size)
    (h : ∀ a' cap' w', Grow .i64 3 w' base a' (n + m) cap' (xs ++ ys) → Below base w w' → wpList Try.prog ops Q rest (a.put o.dst (.slice a' (n + m) cap')) w') : wpList Try.prog ops Q (o :: rest) a w := by
  obtain ⟨v, w', hr, a', cap', rfl, h1, h2, h3⟩ := run_appendA w o.type base A src n cap m c B xs ys hg hy hm hn hb
  exact wpList_wanted hw fun K hK => Lib.wp_append_run w s x _ _ ho _ _ hs hx _ _ hr (hK _ _ (h a' cap' w' h1 h2))
end
set_option maxHeartbeats 2000000 in
theorem walkCheckShift (a : Option Addr) (c : Nat) (ds : List Int) (w : World) (hx : Ints .u8 w w.heap.size a ds) (hw : ∀ n ∈ ds, (Lit.int .u8 n).wf = true) (hc : ds.length ≤ c) (hcm : c ≤ maxLen) :
    Calls Try.prog 9 #[.slice a ds.length c] w fun e w' => e = .returned (.bool true) ∧ Below w.heap.size w w' := by
  have hb := isByte_of_wf hw
  clear hw
  by_cases hl : ds.length ≤ 1048576
  · go_enter Try.func9, Try.ntmps9
    go_wp2_with fail
    refine (drawCheckPasses_any a c ds w hx hb hc hcm).mono ?_
    rintro e w1 ⟨xs, a1, c1, g, rfl, ⟨l1, l2, l3⟩, ⟨hg1, hg2⟩, i1, b1⟩
    have I1 := Lib.hid i1
    have B1 := Lib.hid b1
    have L3 := Lib.hid l3
    have L1 := Lib.hid (show xs.length ≤ maxLen from Nat.le_trans l2 l3)
    clear hx hb hc hcm i1 b1 l3
    have h1 := checkPasses_any a1 c1 xs g w1 I1.out l2 L3.out
    have h2 := fun (W : World) (hW : Ints .i64 W W.heap.size a1 xs) => specCheckPasses_any a1 c1 W.heap.size xs g W hW L1.out
    cases hp : passes g xs
    · rw [hp] at h1 h2
      have H1 := Lib.hid h1
      have H2 := Lib.hid h2
      clear h1 h2 hp
      go_wp2_with fail
      refine H1.out.mono ?_
      rintro e w2 ⟨rfl, b2⟩
      have I2 := Lib.hid (I1.out.next b2)
      have B2 := Lib.hid (Below.next B1.out (Nat.le_refl _) b2)
      clear b2
      go_wp2_with fail
      refine (H2.out w2 I2.out).mono ?_
      rintro e w' ⟨rfl, rfl⟩
      go_wp2_with fail
      refine (alive_any w2).mono ?_
      rintro e w3 ⟨rfl, b3⟩
      have B3 := Lib.hid (Below.next B2.out (Nat.le_refl _) b3)
      clear b3
      go_wp2
      go_ret
      exact ⟨rfl, B3.out⟩
    · have hxl := bitsOk_length (passes_parts hp).1
      rw [hp] at h1 h2
      have H1 := Lib.hid h1
      have H2 := Lib.hid h2
      have HP := Lib.hid hp
      clear h1 h2 hp
      by_cases hfull : xs.length = 1024
      · have heq : ((xs.length : Int) == 1024) = true := by simp [hfull]
        clear hfull
        go_wp2_with fail
        refine H1.out.mono ?_
        rintro e w2 ⟨rfl, b2⟩
        have I2 := Lib.hid (I1.out.next b2)
        have B2 := Lib.hid (Below.next B1.out (Nat.le_refl _) b2)
        clear b2
        go_wp2_with fail
        refine (H2.out w2 I2.out).mono ?_
        rintro e w' ⟨rfl, rfl⟩
        go_wp2_with fail
        refine (alive_any w2).mono ?_
        rintro e w3 ⟨rfl, b3⟩
        have B3 := Lib.hid (Below.next B2.out (Nat.le_refl _) b3)
        clear b3
        go_wp2
        go_ret
        exact ⟨rfl, B3.out⟩
      · have heq : ((xs.length : Int) == 1024) = false := by rw [beq_eq_false_iff_ne]; omega
        have HC := Lib.hid (passes_cons HP.out hfull)
        have HS := Lib.hid (passes_snoc HP.out hfull)
        clear hfull
        go_wp2_with fail
        refine H1.out.mono ?_
        rintro e w2 ⟨rfl, b2⟩
        have I2 := Lib.hid (I1.out.next b2)
        have B2 := Lib.hid (Below.next B1.out (Nat.le_refl _) b2)
        clear b2 I1 B1
        go_wp2_with fail
        refine (H2.out w2 I2.out).mono ?_
        rintro e w' ⟨rfl, rfl⟩
        have IA := Lib.hid (fun o : Obj => I2.out.below ((Below.refl w2.heap.size w2).alloc (Nat.le_refl _) o))
        have BA := Lib.hid (fun o : Obj => (Below.refl w2.heap.size w2).alloc (Nat.le_refl _) o)
        go_wp2_with (at_builtin; refine wpList_appendA (.tmp 30) (.tmp 31) w2.heap.size (some ⟨w2.heap.size, 0, none⟩) a1 1 1 xs.length c1 w2.heap.size [0] xs rfl rfl rfl rfl (Grow.lit1 _ _ _) (IA.out _) rfl (by omega) (by simp) ?_; intro a3 cap3 w3 hg3 hb3 _; have HG3 := Lib.hid hg3; have HB3 := Lib.hid ((BA.out _).trans hb3); clear hg3 hb3)
        have h5 := checkPasses_any a3 cap3 ([0] ++ xs) g w3 HG3.out.ints (by rw [HG3.out.len]; exact HG3.out.room.1) HG3.out.room.2
        rw [HC.out, HG3.out.len] at h5
        have H5 := Lib.hid h5
        have I3 := Lib.hid (I2.out.next HB3.out)
        have B3 := Lib.hid (Below.next B2.out (Nat.le_refl _) HB3.out)
        clear h5 IA BA
        refine H5.out.mono ?_
        rintro e w4 ⟨rfl, b4⟩
        have I4 := Lib.hid (I3.out.next b4)
        have B4 := Lib.hid (Below.next B3.out (Nat.le_refl _) b4)
        clear b4 H5 I3 B3
        have IA := Lib.hid (fun o : Obj => I4.out.below ((Below.refl w4.heap.size w4).alloc (Nat.le_refl _) o))
        have BA := Lib.hid (fun o : Obj => (Below.refl w4.heap.size w4).alloc (Nat.le_refl _) o)
        go_wp2_with (first
          | (at_builtin; refine wpList_appendAg (.tmp 36) (.tmp 37) w4.heap.size (some ⟨w4.heap.size, 0, none⟩) a1 0 0 xs.length c1 w4.heap.size [] xs rfl rfl rfl rfl (Grow.lit0 _ _ _ _ (Nat.le_refl _)) (IA.out _) rfl (by omega) (by simp) ?_; intro a5 cap5 w5 hg5 hb5; rw [Nat.zero_add, List.nil_append] at hg5; have HG5 := Lib.hid hg5; have HB5 := Lib.hid ((BA.out _).trans hb5); have hs5 : w4.heap.size ≤ w5.heap.size := ((BA.out _).trans hb5).size; clear hg5 hb5)
          | (at_builtin; refine wpList_append1g (.tmp 38) (.tmp 39) w4.heap.size a5 xs.length cap5 xs ⟨w5.heap.size, 0, none⟩ 0 rfl rfl rfl rfl (HG5.out.alloc _) (by simp) (by omega) (by simp; omega) ?_; intro a6 cap6 w6 hg6 hb6; have HG6 := Lib.hid hg6; have HB6 := Lib.hid (HB5.out.trans (((Below.refl _ _).alloc hs5 _).trans hb6)); clear hg6 hb6))
        have h7 := checkPasses_any a6 cap6 (xs ++ [0]) g w6 HG6.out.ints (by rw [HG6.out.len]; exact HG6.out.room.1) HG6.out.room.2
        rw [HS.out, HG6.out.len] at h7
        have H7 := Lib.hid h7
        have B6 := Lib.hid (Below.next B4.out (Nat.le_refl _) HB6.out)
        clear h7 IA BA
        refine H7.out.mono ?_
        rintro e w8 ⟨rfl, b8⟩
        have B8 := Lib.hid (Below.next B6.out (Nat.le_refl _) b8)
        clear b8
        go_wp2
        go_ret
        exact ⟨rfl, B8.out⟩
  · go_enter Try.func9, Try.ntmps9
    go_wp2
    go_ret
    exact ⟨rfl, Below.refl _ _⟩
end Go.Proofs.Ytnmpeeailljdaaa
