/-
  The laws of the run of access (messages do not collide) and of the order of its senders, walked: they return true for every list of bytes. Condition: bytes that can be read.
-/
import Derived.Test.YtenihedpbklmlaaAcc11
import Derived.Test.YtenihedpbklmlaaAccDraw2
import Derived.Test.YtenihedpbklmlaaTrTwo
import Derived.Test.YtenihedpbklmlaaLawMath
namespace Go.Proofs.Ytenihedpbklmlaa
open Go.RowKit

theorem aliveA_from3 {w W : World} (hB : Below w.heap.size w W) : Calls Try.prog 17 #[] W fun e w' => e = .returned (.bool true) ∧ Below w.heap.size w w' := (alive_any W).mono fun _ _ ⟨h1, h2⟩ => ⟨h1, Below.next hB (Nat.le_refl _) h2⟩
theorem acOr_small (xs : List Int) (h : xs.length ≤ 9) : (acOr xs).length ≤ 9 := by
  cases h1 : acOk xs
  · rw [acOr_no h1]; exact Nat.zero_le _
  · rw [acOr_len h1]; exact h
theorem acOr_case {xs : List Int} (h : (acOr xs).length = xs.length) (h0 : ¬ xs.length = 0) : acOk xs = true := by
  cases h1 : acOk xs
  · rw [acOr_no h1] at h; exact absurd h.symm h0
  · rfl
set_option maxRecDepth 10000 in
theorem accessRun_len (a : Option Addr) (c n : Nat) (xs : List Int) (w : World) (hn : n = xs.length) (hx : Ints .i64 w w.heap.size a xs) :
    Calls Try.prog 14 #[.slice a n c] w (ListPostC (acOr xs) w) := by subst hn; exact accessRun_any a c xs w hx
theorem ints_two {w : World} {b : Nat} {x y : Int} (hb : b < w.heap.size) (h0 : w.cell? ⟨b, 0, none⟩ = some (.int .i64 x)) (h1 : w.cell? ⟨b, 1, none⟩ = some (.int .i64 y)) : Ints .i64 w w.heap.size (some ⟨b, 0, none⟩) [x, y] := fun _ =>
  ⟨b, 0, rfl, hb, fun i hi => by
    match i, hi with
    | 0, _ => exact h0
    | 1, _ => exact h1⟩
set_option maxRecDepth 10000 in
theorem same2 (a a' : Option Addr) (c c' : Nat) (w : World) (h : Ints .i64 w w.heap.size a [-1, -1]) (h' : Ints .i64 w w.heap.size a' [-1, -1]) :
    Calls Try.prog 15 #[.slice a 2 c, .slice a' 2 c'] w fun e w' => e = .returned (.bool true) ∧ ∃ n, w' = w.drewN n := (sameInts_any a a' c c' _ _ [-1, -1] [-1, -1] w h h' (by decide)).mono fun _ _ ⟨h1, h2⟩ => ⟨by rw [h1]; rfl, h2⟩
theorem ints_blk {w : World} {b t : Nat} {x y : Int} (h : w.heap[b]? = some (.cells #[.int .i64 x, .int .i64 y] t (0, 0))) : Ints .i64 w w.heap.size (some ⟨b, 0, none⟩) [x, y] :=
  ints_two (Array.getElem?_eq_some_iff.1 h).1 (by simp [World.cell?, h]) (by simp [World.cell?, h])
section
variable {w : World} {ops : Array Oper} {rest : List Oper} {o : Oper} {a : Act} {Q : Exit → Act → World → Prop}
set_option maxRecDepth 10000 in
theorem wpList_append_twoT3 (s x : Operand) (base g n cap : Nat) (xs : List Int) (ad : Addr) (v : Int)
    (hgd : o.guard = none) (ho : o.op = .call { callee := .builtin .append, args := #[s, x], argTypes := #[23, 23] }) (hs : a.eval s = .slice (some ⟨g, 0, none⟩) n cap) (hx : a.eval x = .slice (some ad) 1 1)
    (hg : Grow .i64 3 w base (some ⟨g, 0, none⟩) n cap xs) (hc : w.cell? ad = some (.int .i64 v)) (hn : n < 1099511627776) (hb : base ≤ w.heap.size)
    (h : ∀ g' cap' w', (g' = g ∨ w.heap.size ≤ g') → Grow .i64 3 w' base (some ⟨g', 0, none⟩) (n + 1) cap' (xs ++ [v]) → w.grownBy w' (some g) → wpList Try.prog ops Q rest (a.put o.dst (.slice (some ⟨g', 0, none⟩) (n + 1) cap')) w') : wpList Try.prog ops Q (o :: rest) a w := by
  obtain ⟨g', cap', w', hr, h1, h2, h3⟩ := run_append_twoT w o.type base g n cap xs ad v hg hc hn hb
  exact Lib.wpList_append_run w hgd s x _ _ ho _ _ hs hx _ _ hr (h g' cap' w' h1 h2 h3)
end
theorem drop_rev_next {xs : List Int} {k : Nat} (h : k < xs.length) : (xs.drop k).reverse = (xs.drop (k + 1)).reverse ++ [el xs k] := by
  rw [List.drop_eq_getElem_cons h, List.reverse_cons, el_lt h]
theorem drop_none {xs : List Int} {k : Nat} (h : xs.length ≤ k) : (xs.drop k).reverse = [] := by rw [List.drop_eq_nil_of_le h]; rfl
set_option maxRecDepth 100000 in
set_option maxHeartbeats 8000000 in
theorem walkAccessOrder (a : Option Addr) (c : Nat) (ds : List Int) (w : World) (hx : Ints .u8 w w.heap.size a ds) (hw : ∀ n ∈ ds, (Lit.int .u8 n).wf = true) (hc : ds.length ≤ c) (hcm : c ≤ maxLen) :
    Calls Try.prog 4 #[.slice a ds.length c] w fun e w' => e = .returned (.bool true) ∧ Below w.heap.size w w' := by
  have hb := isByte_of_wf hw
  clear hw
  by_cases hl : ds.length ≤ 1048576
  · go_enter Try.func4, Try.ntmps4
    go_wp2_with fail
    refine (drawAccessRun_any a c ds w hx hb hc hcm).mono ?_
    rintro e w1 ⟨xs, ax, cx, rfl, ⟨hx9, _, _⟩, i1, bl⟩
    have X1 := Lib.hid i1
    have B1 := Lib.hid bl
    clear hx hb hc hcm i1 bl hl
    obtain ⟨S, hS⟩ : ∃ S, S = acOr xs := ⟨_, rfl⟩
    have HS := Lib.hid hS
    have hSl : S.length ≤ 9 := by rw [hS]; exact acOr_small xs hx9
    have z1 : decide (S = S) = true := by simp
    clear hS
    go_wp2_with fail
    refine (accessRun_any (some ax) cx xs w1 X1.out).mono ?_
    rw [← HS.out]
    rintro e w2 ⟨g0, cg0, rfl, _, o2, b2⟩
    have G2 := Lib.hid (own_of_list o2).ints
    have X2 := Lib.hid (X1.out.next b2)
    have B2 := Lib.hid (Below.next B1.out (Nat.le_refl _) b2)
    clear o2 b2 X1 B1
    go_wp2_with fail
    refine (specAccessRun_any (some ax) cx xs w2 X2.out).mono ?_
    rw [← HS.out]
    rintro e w3 ⟨g3, cg3, rfl, _, o3, b3⟩
    have W3 := Lib.hid (own_of_list o3).ints
    have G3 := Lib.hid (G2.out.next b3)
    have X3 := Lib.hid (X2.out.next b3)
    have B3 := Lib.hid (Below.next B2.out (Nat.le_refl _) b3)
    clear o3 b3 G2 X2 B2
    go_wp2_with fail
    refine (sameInts_any g0 g3 cg0 cg3 w3.heap.size w3.heap.size S S w3 G3.out W3.out (by omega)).mono ?_
    rintro e w4 ⟨rfl, n4, rfl⟩
    have B4 := Lib.hid (below_drewN B3.out n4)
    have G4 := Lib.hid (G3.out.drewN n4)
    have X4 := Lib.hid (X3.out.drewN n4)
    clear B3 G3 X3 W3 z1
    generalize hw4 : w3.drewN n4 = w4 at B4 ⊢
    have hs4 : w3.heap.size = w4.heap.size := by rw [← hw4]; rfl
    rw [hw4, hs4] at G4 X4
    clear hw4 hs4
    have T0 := Lib.hid (TwoT.start w4)
    have r0 := wrapW (n := (xs.length : Int) - 1) (by omega)
    have r0' := wrapW' (n := (xs.length : Int) - 1) (by omega)
    have HX9 := Lib.hid hx9
    go_wp2
    clear r0 r0'
    go_loopw [5, 6, 7] (fun R U i wr => ∃ j tb nt sb cs p q : Nat, ∃ v : Int, j ≤ xs.length ∧ v = (j : Int) - 1 ∧ i = .int .i64 v ∧ R = .slice (some ⟨tb, 0, none⟩) p nt ∧ U = .slice (some ⟨sb, 0, none⟩) q cs ∧ p ≤ 9 ∧ q ≤ 9 ∧ TwoT w4 wr tb sb q nt cs (xs.drop j).reverse (S.drop j).reverse p) (fun _ _ i _ => (intOf i + 1).toNat)
    case atStart =>
      refine ⟨xs.length, _, _, _, _, 0, 0, _, Nat.le_refl _, rfl, rfl, rfl, rfl, by omega, by omega, ?_⟩
      rw [drop_none (Nat.le_refl _), drop_none (show S.length ≤ xs.length by
        rw [HS.out]
        cases h1 : acOk xs
        · rw [acOr_no h1]; exact Nat.zero_le _
        · rw [acOr_len h1]; exact Nat.le_refl _)]
      exact T0.out
    case round =>
      obtain ⟨j, tb, nt, sb, cs, p, q, v, hj, hv, rfl, rfl, rfl, hp9, hq9, htw⟩ := hrel
      have T4 := Lib.hid htw
      have hsz : w4.heap.size ≤ wr.heap.size := htw.2.2.2.size
      have hpl : (xs.drop j).reverse.length = p := htw.1.len
      have hql : (S.drop j).reverse.length = q := htw.2.1.len
      rw [List.length_reverse, List.length_drop] at hpl hql
      clear htw T0
      have h9 := HX9.out
      by_cases hj0 : 0 < j
      · obtain ⟨k, rfl⟩ : ∃ k : Nat, v = (k : Int) := ⟨j - 1, by omega⟩
        obtain rfl : j = k + 1 := by omega
        have hkl : k < xs.length := by omega
        have hk0 : (0 : Int) ≤ (k : Int) := by omega
        have hkI : (k : Int) < (xs.length : Int) := by omega
        obtain ⟨b1, f1, e1, hb1, hc1⟩ := (X4.out.below T4.out.2.2.2).at_ hkl
        injection e1 with e1
        subst e1
        obtain ⟨x, hxv⟩ : ∃ x, x = el xs k := ⟨_, rfl⟩
        rw [← hxv] at hc1
        have HXV := Lib.hid hxv
        have HD1 := Lib.hid (drop_rev_next hkl)
        have hp8 : p < 1099511627776 := by omega
        have hq8 : q < 1099511627776 := by omega
        have hp1 : p + 1 ≤ 9 := by omega
        have r1 := wrapW (n := (k : Int) - 1) (by omega)
        have r1' := wrapW' (n := (k : Int) - 1) (by omega)
        have HQL := Lib.hid hql
        clear hv hpl hql hxv
        by_cases hks : k < S.length
        · have hq1 : q + 1 ≤ 9 := by have := HQL.out; omega
          have hksI : (k : Int) < (S.length : Int) := by omega
          obtain ⟨y, hyv⟩ : ∃ y, y = el S k := ⟨_, rfl⟩
          have HYV := Lib.hid hyv
          have HD2 := Lib.hid (drop_rev_next hks)
          clear hyv
          go_wp2_with (first
            | (at_builtin; refine wpList_append_twoT3 (.tmp 40) (.tmp 45) w4.heap.size sb q cs (S.drop (k + 1)).reverse ⟨w6.heap.size, 0, none⟩ y rfl rfl rfl rfl (T5.out.2.1.alloc _) (by simp) hq8 (by have := hsz5; simp; omega) ?_; intro sb7 cs7 w7 hb7 hg7 hn7; rw [HYV.out, ← HD2.out] at hg7; have T7 := Lib.hid ((T5.out.alloc _).second hb7 hg7 hn7); clear hb7 hg7 hn7)
            | (at_builtin; refine wpList_append_twoT3 (.tmp 29) (.tmp 34) w4.heap.size tb p nt (xs.drop (k + 1)).reverse ⟨wr.heap.size, 0, none⟩ x rfl rfl rfl rfl (T4.out.1.alloc _) (by simp) hp8 (by simp; omega) ?_; intro tb5 nt5 w6 hb5 hg5 hn5; rw [HXV.out, ← HD1.out] at hg5; have T5 := Lib.hid ((T4.out.alloc _).first hb5 hg5 hn5); have hsz5 : w4.heap.size ≤ w6.heap.size := T5.out.2.2.2.size; obtain ⟨b2, f2, e2, hb2, hc2⟩ := (G4.out.below T5.out.2.2.2).at_ hks; subst e2; rw [← HYV.out] at hc2; clear hb5 hg5 hn5 hb2))
          go_roundw
          case rel => exact ⟨k, _, _, _, _, p + 1, q + 1, _, by omega, rfl, by go_num, rfl, rfl, hp1, hq1, T7.out⟩
          case measure => simp [intOf] <;> omega
        · have hksI : ¬ (k : Int) < (S.length : Int) := by omega
          have HD2 := Lib.hid (show (S.drop (k + 1)).reverse = (S.drop k).reverse by rw [drop_none (by omega), drop_none (by omega)])
          go_wp2_with (at_builtin; refine wpList_append_twoT3 (.tmp 29) (.tmp 34) w4.heap.size tb p nt (xs.drop (k + 1)).reverse ⟨wr.heap.size, 0, none⟩ x rfl rfl rfl rfl (T4.out.1.alloc _) (by simp) hp8 (by simp; omega) ?_; intro tb5 nt5 w6 hb5 hg5 hn5; rw [HXV.out, ← HD1.out] at hg5; have T5 := Lib.hid ((T4.out.alloc _).first hb5 hg5 hn5); rw [HD2.out] at T5; clear hb5 hg5 hn5)
          go_roundw
          case rel => exact ⟨k, _, _, _, _, p + 1, q, _, by omega, rfl, by go_num, rfl, rfl, hp1, hq9, T5.out⟩
          case measure => simp [intOf] <;> omega
      · obtain rfl : j = 0 := by omega
        obtain rfl : v = -1 := by omega
        obtain ⟨Z, hZ⟩ : ∃ Z, Z = S.reverse := ⟨_, rfl⟩
        have hZl : q = Z.length := by rw [hZ, List.length_reverse]; omega
        have TT := T4.out
        rw [List.drop_zero, List.drop_zero, ← hZ] at TT
        have HE : Hid (acOr xs.reverse = Z) := Lib.hid (by rw [acOr_turn, ← HS.out, hZ])
        have HCall := Lib.hid (accessRun_len (some ⟨tb, 0, none⟩) nt p xs.reverse wr (by rw [List.length_reverse]; omega) TT.1.ints)
        have Z2 := Lib.hid TT.2.1.ints
        have B9 := Lib.hid (Below.next B4.out (Nat.le_refl _) TT.2.2.2)
        have hz9 : Z.length ≤ 9 := by omega
        rw [HE.out] at HCall
        subst hZl
        clear TT hZ hpl hql hv hp9 hq9
        go_wp2_with fail
        refine HCall.out.mono ?_
        rintro e w5 ⟨g5, c5, rfl, _, o5, b5⟩
        have G5 := Lib.hid (own_of_list o5).ints
        have Z5 := Lib.hid (Z2.out.next b5)
        have B5 := Lib.hid (Below.next B9.out (Nat.le_refl _) b5)
        have z1 : decide (Z = Z) = true := by simp
        clear o5 b5
        go_wp2_with fail
        refine (sameInts_any g5 (some ⟨sb, 0, none⟩) c5 cs w5.heap.size w5.heap.size Z Z w5 G5.out Z5.out (by omega)).mono ?_
        rintro e w6 ⟨rfl, n6, rfl⟩
        have HAL := Lib.hid (aliveA_from3 (below_drewN B5.out n6))
        go_wp2_with (go_at_call 17; (with_reducible refine HAL.out.mono ?_); rintro e w7 ⟨rfl, h7⟩)
        go_ret
        exact ⟨rfl, h7⟩
  · go_enter Try.func4, Try.ntmps4
    have hl' : (1048576 : Int) < (ds.length : Int) := by omega
    go_wp2
    go_ret
    exact ⟨rfl, Below.refl _ _⟩
set_option maxRecDepth 10000 in
theorem twins_is (a : Option Addr) (c : Nat) (x : Int) (w : World) (hx : sdIn x = true) (hi : Ints .i64 w w.heap.size a [x, x]) :
    Calls Try.prog 14 #[.slice a 2 c] w (ListPostC [-1, -1] w) := by
  have := accessRun_any a c [x, x] w hi
  rw [acOr_twins hx] at this
  exact this
set_option maxRecDepth 100000 in
set_option maxHeartbeats 8000000 in
theorem walkAccessRun (a : Option Addr) (c : Nat) (ds : List Int) (w : World) (hx : Ints .u8 w w.heap.size a ds) (hw : ∀ n ∈ ds, (Lit.int .u8 n).wf = true) (hc : ds.length ≤ c) (hcm : c ≤ maxLen) :
    Calls Try.prog 3 #[.slice a ds.length c] w fun e w' => e = .returned (.bool true) ∧ Below w.heap.size w w' := by
  have hb := isByte_of_wf hw
  clear hw
  by_cases hl : ds.length ≤ 1048576
  · go_enter Try.func3, Try.ntmps3
    go_wp2_with fail
    refine (drawAccessRun_any a c ds w hx hb hc hcm).mono ?_
    rintro e w1 ⟨xs, ax, cx, rfl, ⟨hx9, _, _⟩, i1, bl⟩
    have X1 := Lib.hid i1
    have B1 := Lib.hid bl
    clear hx hb hc hcm i1 bl hl
    obtain ⟨S, hS⟩ : ∃ S, S = acOr xs := ⟨_, rfl⟩
    have HS := Lib.hid hS
    have hSl : S.length ≤ 9 := by rw [hS]; exact acOr_small xs hx9
    have z1 : decide (S = S) = true := by simp
    clear hS
    go_wp2_with fail
    refine (accessRun_any (some ax) cx xs w1 X1.out).mono ?_
    rw [← HS.out]
    rintro e w2 ⟨g0, cg0, rfl, _, o2, b2⟩
    have G2 := Lib.hid (own_of_list o2).ints
    have X2 := Lib.hid (X1.out.next b2)
    have B2 := Lib.hid (Below.next B1.out (Nat.le_refl _) b2)
    clear o2 b2 X1 B1
    go_wp2_with fail
    refine (specAccessRun_any (some ax) cx xs w2 X2.out).mono ?_
    rw [← HS.out]
    rintro e w3 ⟨g3, cg3, rfl, _, o3, b3⟩
    have W3 := Lib.hid (own_of_list o3).ints
    have G3 := Lib.hid (G2.out.next b3)
    have X3 := Lib.hid (X2.out.next b3)
    have B3 := Lib.hid (Below.next B2.out (Nat.le_refl _) b3)
    clear o3 b3 G2 X2 B2
    go_wp2_with fail
    refine (sameInts_any g0 g3 cg0 cg3 w3.heap.size w3.heap.size S S w3 G3.out W3.out (by omega)).mono ?_
    rintro e w4 ⟨rfl, n4, rfl⟩
    have B4 := Lib.hid (below_drewN B3.out n4)
    have G4 := Lib.hid (G3.out.drewN n4)
    have X4 := Lib.hid (X3.out.drewN n4)
    clear B3 G3 X3 W3 z1
    generalize hw4 : w3.drewN n4 = w4 at B4 ⊢
    have hs4 : w3.heap.size = w4.heap.size := by rw [← hw4]; rfl
    rw [hw4, hs4] at G4 X4
    clear hw4 hs4
    have HAL := Lib.hid (aliveA_from3 B4.out)
    by_cases hne : S.length = xs.length
    · obtain ⟨n, hn⟩ : ∃ n, n = xs.length := ⟨_, rfl⟩
      rw [← hn] at hne hx9 ⊢
      rw [hne]
      by_cases h0 : n = 0
      · clear hne hn
        subst h0
        go_wp2_with (go_at_call 17; (with_reducible refine HAL.out.mono ?_); rintro e w5 ⟨rfl, h5⟩)
        go_ret
        exact ⟨rfl, h5⟩
      · have hok : acOk xs = true := acOr_case (by rw [← HS.out, ← hn]; exact hne) (by rw [← hn]; exact h0)
        have HF := Lib.hid (fun k (hk : k < n) => show (-1 ≤ el S k ∧ el S k < 400) ∧ (n = 1 → el S k = 0) ∧ (1 < n → el S k ≠ 0) ∧ ∀ j, j < k → 0 ≤ el S k → el S j ≠ el S k by rw [HS.out, hn]; exact acOr_facts hok (by rw [← hn]; exact hk))
        have HSd := Lib.hid (show sdIn (el xs 0) = true by
          have h := ((svOk_iff 2047 xs).1 (by rw [svOk_ac]; exact hok)).2 0 (by omega)
          simp [sdIn]; omega)
        have z3 : ((n : Int) == 0) = false := by rw [beq_eq_false_iff_ne]; omega
        have h0' : ¬ (n : Int) = 0 := by omega
        obtain ⟨bx, ox, ex, hbx, hcx⟩ := X4.out (by intro e; rw [e] at hn; simp at hn; omega)
        injection ex with ex
        subst ex
        have c0 := hcx 0 (by omega)
        rw [Nat.add_zero] at c0
        obtain ⟨x0, hx0⟩ : ∃ x0, x0 = el xs 0 := ⟨_, rfl⟩
        rw [← hx0] at c0 HSd
        have HC0 := Lib.hid c0
        obtain ⟨bo, oo, eo, hbo, hco⟩ := G4.out (by intro e; rw [e] at hne; simp at hne; omega)
        subst eo
        have HCO := Lib.hid hco
        have HNE := Lib.hid hne
        have HXP := Lib.hid (show 0 < n by omega)
        clear hne h0 hok hcx hco c0 hx0 hbo hn
        go_wp2
        clear z3 h0'
        go_loopw [5] (fun i wr => ∃ k m : Nat, k ≤ n ∧ i = .int .i64 k ∧ wr = w4.drewN m) (fun i _ => n - (intOf i).toNat)
        case atStart => exact ⟨0, 0, Nat.zero_le _, rfl, rfl⟩
        case round =>
          obtain ⟨k, m, hk, rfl, rfl⟩ := hrel
          by_cases hlt : k < n
          · obtain ⟨⟨f1, f2⟩, f3, f4, f5⟩ := HF.out k hlt
            have ck : (w4.drewN m).cell? ⟨bo, oo + k, none⟩ = some (.int .i64 (el S k)) := HCO.out k (by rw [HNE.out]; exact hlt)
            obtain ⟨v, hv⟩ : ∃ v, v = el S k := ⟨_, rfl⟩
            rw [← hv] at ck f1 f2 f3 f4 f5
            have HV := Lib.hid hv
            have HV5 := Lib.hid f5
            have q1 : ¬ v < -1 := by omega
            have q2 : ¬ 400 ≤ v := by omega
            have hltI : (k : Int) < (n : Int) := by omega
            have ck0 : w4.cell? ⟨bo, oo + k, none⟩ = some (.int .i64 v) := ck
            clear f1 f2 f5 hv
            by_cases h1 : n = 1
            · have q3 : ((n : Int) == 1) = true := by simp [h1]
              have q4 : (v != 0) = false := by simp [f3 h1]
              have q5 : ¬ (1 : Int) < (n : Int) := by omega
              clear h1 f3 f4
              go_wp2
              clear q3 q4 q5
              go_loopw [6] (fun j wr => ∃ i q : Nat, i ≤ k ∧ j = .int .i64 i ∧ wr = w4.drewN q) (fun j _ => k - (intOf j).toNat)
              case atStart => exact ⟨0, m, Nat.zero_le _, rfl, rfl⟩
              case round =>
                obtain ⟨i, q, hi, rfl, rfl⟩ := hrel
                by_cases hik : i < k
                · have hiI : (i : Int) < (k : Int) := by omega
                  have hiN : (i : Int) < (n : Int) := by omega
                  have ci : (w4.drewN q).cell? ⟨bo, oo + i, none⟩ = some (.int .i64 (el S i)) := HCO.out i (by rw [HNE.out]; omega)
                  have h5 := HV5.out i hik
                  obtain ⟨y, hy⟩ : ∃ y, y = el S i := ⟨_, rfl⟩
                  rw [← hy] at ci h5
                  have ci0 : w4.cell? ⟨bo, oo + i, none⟩ = some (.int .i64 y) := ci
                  have ck' : (w4.drewN q).cell? ⟨bo, oo + k, none⟩ = some (.int .i64 v) := ck0
                  clear hy
                  by_cases hyv : y = v
                  · have z : (y == v) = true := by simp [hyv]
                    have hv0 : ¬ 0 ≤ v := fun h => h5 h hyv
                    have hd : decide (0 ≤ v) = false := decide_eq_false hv0
                    clear hyv h5
                    go_wp2
                    go_quiet (fail)
                    go_wp2
                    go_roundw
                    case rel => exact ⟨i + 1, _, by omega, by go_num, rfl⟩
                    case measure => simp [intOf]; omega
                  · have z : (y == v) = false := by simp [hyv]
                    clear hyv h5
                    go_wp2
                    go_quiet (fail)
                    go_wp2
                    go_roundw
                    case rel => exact ⟨i + 1, _, by omega, by go_num, rfl⟩
                    case measure => simp [intOf]; omega
                · obtain rfl : i = k := by omega
                  go_wp2
                  go_roundw
                  case rel => exact ⟨i + 1, q, by omega, by go_num, rfl⟩
                  case measure => simp [intOf]; omega
            · have q3 : ((n : Int) == 1) = false := by rw [beq_eq_false_iff_ne]; omega
              have hx2 : 1 < n := by have := HXP.out; omega
              have q5 : (1 : Int) < (n : Int) := by omega
              have q4 : (v == 0) = false := by simp [f4 hx2]
              clear h1 f3 f4
              go_wp2
              clear q3 q4 q5
              go_loopw [6] (fun j wr => ∃ i q : Nat, i ≤ k ∧ j = .int .i64 i ∧ wr = w4.drewN q) (fun j _ => k - (intOf j).toNat)
              case atStart => exact ⟨0, m, Nat.zero_le _, rfl, rfl⟩
              case round =>
                obtain ⟨i, q, hi, rfl, rfl⟩ := hrel
                by_cases hik : i < k
                · have hiI : (i : Int) < (k : Int) := by omega
                  have hiN : (i : Int) < (n : Int) := by omega
                  have ci : (w4.drewN q).cell? ⟨bo, oo + i, none⟩ = some (.int .i64 (el S i)) := HCO.out i (by rw [HNE.out]; omega)
                  have h5 := HV5.out i hik
                  obtain ⟨y, hy⟩ : ∃ y, y = el S i := ⟨_, rfl⟩
                  rw [← hy] at ci h5
                  have ci0 : w4.cell? ⟨bo, oo + i, none⟩ = some (.int .i64 y) := ci
                  have ck' : (w4.drewN q).cell? ⟨bo, oo + k, none⟩ = some (.int .i64 v) := ck0
                  clear hy
                  by_cases hyv : y = v
                  · have z : (y == v) = true := by simp [hyv]
                    have hv0 : ¬ 0 ≤ v := fun h => h5 h hyv
                    have hd : decide (0 ≤ v) = false := decide_eq_false hv0
                    clear hyv h5
                    go_wp2
                    go_quiet (fail)
                    go_wp2
                    go_roundw
                    case rel => exact ⟨i + 1, _, by omega, by go_num, rfl⟩
                    case measure => simp [intOf]; omega
                  · have z : (y == v) = false := by simp [hyv]
                    clear hyv h5
                    go_wp2
                    go_quiet (fail)
                    go_wp2
                    go_roundw
                    case rel => exact ⟨i + 1, _, by omega, by go_num, rfl⟩
                    case measure => simp [intOf]; omega
                · obtain rfl : i = k := by omega
                  go_wp2
                  go_roundw
                  case rel => exact ⟨i + 1, q, by omega, by go_num, rfl⟩
                  case measure => simp [intOf]; omega
          · obtain rfl : k = n := by omega
            have B9 := Lib.hid (below_drewN B4.out m)
            have C9 : Hid ((w4.drewN m).cell? ⟨bx, ox, none⟩ = some (.int .i64 x0)) := Lib.hid HC0.out
            have hbx9 : bx < (w4.drewN m).heap.size := hbx
            generalize w4.drewN m = u0 at B9 C9 hbx9 ⊢
            have HT1 := Lib.hid (twins_is (some ⟨u0.heap.size, 0, none⟩) 2 x0 (u0.alloc (.cells #[.int .i64 x0, .int .i64 x0] 3)).drew HSd.out (ints_blk (w := (u0.alloc (.cells #[.int .i64 x0, .int .i64 x0] 3)).drew) (heap_alloc_last u0 _)))
            have HT2 := Lib.hid (twins_is (some ⟨u0.heap.size, 0, none⟩) 2 x0 ((u0.alloc (.cells #[.int .i64 x0, .int .i64 x0] 3)).alloc (.cells #[.int .i64 (-1), .int .i64 (-1)] 3)).drew HSd.out (ints_blk (w := ((u0.alloc (.cells #[.int .i64 x0, .int .i64 x0] 3)).alloc (.cells #[.int .i64 (-1), .int .i64 (-1)] 3)).drew) (heap_prev2 u0 _ _)))
            have HT3 := Lib.hid (twins_is (some ⟨u0.heap.size + 1, 0, none⟩) 2 x0 ((u0.alloc (.cells #[.int .i64 (-1), .int .i64 (-1)] 3)).alloc (.cells #[.int .i64 x0, .int .i64 x0] 3)).drew HSd.out (ints_blk (w := ((u0.alloc (.cells #[.int .i64 (-1), .int .i64 (-1)] 3)).alloc (.cells #[.int .i64 x0, .int .i64 x0] 3)).drew) (heap_last2 u0 _ _)))
            have HM2 := Lib.hid (ints_blk (w := ((u0.alloc (.cells #[.int .i64 x0, .int .i64 x0] 3)).alloc (.cells #[.int .i64 (-1), .int .i64 (-1)] 3)).drew) (heap_last2 u0 _ _))
            have HM3 := Lib.hid (ints_blk (w := ((u0.alloc (.cells #[.int .i64 (-1), .int .i64 (-1)] 3)).alloc (.cells #[.int .i64 x0, .int .i64 x0] 3)).drew) (heap_prev2 u0 _ _))
            have HBB := Lib.hid (fun o : Obj => show Below w.heap.size w (u0.alloc o).drew from (B9.out.alloc B9.out.size o).drew)
            have HBB2 := Lib.hid (fun o p : Obj => show Below w.heap.size w ((u0.alloc o).alloc p).drew from ((B9.out.alloc B9.out.size o).alloc (B9.out.alloc B9.out.size o).size p).drew)
            have c9 := C9.out
            have hnp : 0 < k := HXP.out
            go_wp2_with fail
            go_region_law (first
              | (go_simp; go_at_call 15; (with_reducible refine (same2 v1 (some ⟨x1.heap.size, 0, none⟩) cv1 2 (x1.alloc (.cells #[.int .i64 (-1), .int .i64 (-1)] 3)) (V1.out.next (alloc_belowX x1 _)) (ints_blk (heap_alloc_last x1 _))).mono ?_); rintro e x2 ⟨rfl, n9, rfl⟩; have BE := Lib.hid (below_drewN (BV1.out.alloc BV1.out.size (.cells #[.int .i64 (-1), .int .i64 (-1)] 3)) n9))
              | (go_simp; go_at_call 15; (with_reducible refine (same2 v2 (some ⟨u0.heap.size + 1, 0, none⟩) cv2 2 x2 V2.out M2.out).mono ?_); rintro e x9 ⟨rfl, n9, rfl⟩; have BE := Lib.hid (below_drewN BV2.out n9))
              | (go_simp; go_at_call 15; (with_reducible refine (same2 v3 (some ⟨u0.heap.size, 0, none⟩) cv3 2 x3 V3.out M3.out).mono ?_); rintro e x9 ⟨rfl, n9, rfl⟩; have BE := Lib.hid (below_drewN BV3.out n9))
              | (go_simp; go_at_call 14; (with_reducible refine HT3.out.mono ?_); rintro e x3 ⟨v3, cv3, rfl, _, o3, b3⟩; have V3 := Lib.hid (own_of_list o3).ints; have M3 := Lib.hid (HM3.out.next b3); have BV3 := Lib.hid (Below.next (HBB2.out _ _) (Nat.le_refl _) b3); clear o3 b3)
              | (go_simp; go_at_call 14; (with_reducible refine HT2.out.mono ?_); rintro e x2 ⟨v2, cv2, rfl, _, o2, b2⟩; have V2 := Lib.hid (own_of_list o2).ints; have M2 := Lib.hid (HM2.out.next b2); have BV2 := Lib.hid (Below.next (HBB2.out _ _) (Nat.le_refl _) b2); clear o2 b2)
              | (go_simp; go_at_call 14; (with_reducible refine HT1.out.mono ?_); rintro e x1 ⟨v1, cv1, rfl, _, o1, b1⟩; have V1 := Lib.hid (own_of_list o1).ints; have BV1 := Lib.hid (Below.next (HBB.out _) (Nat.le_refl _) b1); clear o1 b1)
              | fail)
            all_goals
              go_wp2
              go_ret
              exact ⟨rfl, BE.out⟩
    · have hs0 : S.length = 0 := by
        rw [HS.out] at hne ⊢
        cases h1 : acOk xs
        · rw [acOr_no h1]; rfl
        · exact absurd (acOr_len h1) hne
      rw [hs0] at hne ⊢
      have z2 : ((0 : Int) != (xs.length : Int)) = true := by simp; omega
      have z3 : ¬ (xs.length : Int) = 0 := by omega
      have z4 : ¬ (0 : Int) = (xs.length : Int) := by omega
      clear hne hs0
      go_wp2_with (go_at_call 17; (with_reducible refine HAL.out.mono ?_); rintro e w5 ⟨rfl, h5⟩)
      go_ret
      exact ⟨rfl, h5⟩
  · go_enter Try.func3, Try.ntmps3
    have hl' : (1048576 : Int) < (ds.length : Int) := by omega
    go_wp2
    go_ret
    exact ⟨rfl, Below.refl _ _⟩
end Go.Proofs.Ytenihedpbklmlaa
