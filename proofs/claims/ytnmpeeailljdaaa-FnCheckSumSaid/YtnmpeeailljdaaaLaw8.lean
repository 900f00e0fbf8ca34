/-
  The laws of CheckSum and CheckAppend, walked: they return true for every code, and write into nothing that was there.
-/
import Derived.Test.YtnmpeeailljdaaaLaw7
import Derived.Test.YtnmpeeailljdaaaSpec8
import Derived.Test.YtnmpeeailljdaaaExact5
namespace Go.Proofs.Ytnmpeeailljdaaa
open Go.RowKit

theorem appOk_parts {g : Int} {xs : List Int} (h : appOk g xs = true) : bitsOk xs = true ∧ genOk g = true ∧ xs.length + deg g ≤ 1024 := by
  simpa [appOk, chkOk, and_assoc] using h
theorem appOr_no {g : Int} {xs : List Int} (h : appOk g xs = false) : appOr g xs = [] := by simp [appOr, h]
theorem appOr_yes {g : Int} {xs : List Int} (h : appOk g xs = true) : appOr g xs = xs ++ chk g xs := by simp [appOr, h]
theorem appOk_reverse {g : Int} {xs : List Int} (h : appOk g xs = true) : appOk g xs.reverse = true := by
  obtain ⟨h1, h2, h3⟩ := appOk_parts h
  simp [appOk, chkOk, reverse_ok h1, h2, h3]
theorem passes_app {g : Int} {xs : List Int} (h : appOk g xs = true) : passes g (appOr g xs) = true := by
  obtain ⟨h1, h2, h3⟩ := appOk_parts h
  rw [appOr_yes h]; exact passes_append h1 h2 h3
theorem appOr_len {g : Int} {xs : List Int} (h : appOk g xs = true) : (appOr g xs).length = xs.length + deg g := by
  rw [appOr_yes h, List.length_append, chk_length]
/-- The sum of two lists with check bits passes. -/
theorem sum_app {g : Int} {xs ys : List Int} (h1 : appOk g xs = true) (h2 : appOk g ys = true) (hl : xs.length = ys.length) : passes g (sumOr (appOr g xs) (appOr g ys)) = true := by
  have p1 := passes_app h1
  have p2 := passes_app h2
  have hle : (appOr g xs).length = (appOr g ys).length := by rw [appOr_len h1, appOr_len h2, hl]
  have hpk : pairOk (appOr g xs) (appOr g ys) = true := by simp [pairOk, (passes_parts p1).1, (passes_parts p2).1, hle]
  rw [show sumOr (appOr g xs) (appOr g ys) = sumBits (appOr g xs) (appOr g ys) by simp [sumOr, hpk], passes_sum p1 hle]
  simp [(passes_parts p2).2.2.2]
/-- One bit changed: the list does not pass any more. -/
theorem set_sum {xs : List Int} (h : bitsOk xs = true) {k : Nat} (hk : k < xs.length) : xs.set k (1 - el xs k) = sumBits xs (damage xs.length k [1]) := by
  refine list_ext (by rw [List.length_set, sumBits_length]) fun j hj => ?_
  have hj2 : j < xs.length := by simpa using hj
  rw [sumBits_el _ _ _ hj2, xorF_at hj2, damage_el]
  by_cases e : j = k
  · subst e
    have e1 : el (xs.set j (1 - el xs j)) j = 1 - el xs j := by simp [el, hj2]
    rw [e1]
    rcases bit_cases h hj2 with e2 | e2 <;> rw [e2] <;> simp [el]
  · have e1 : el (xs.set k (1 - el xs k)) j = el xs j := by simp [el, show ¬ k = j from fun h => e h.symm]
    rw [e1, if_neg (show ¬ (k ≤ j ∧ j < k + ([1] : List Int).length) by simp only [List.length_cons, List.length_nil]; omega)]
    rcases bit_cases h hj2 with e2 | e2 <;> rw [e2] <;> simp
theorem bad_fails {g : Int} {xs : List Int} (h : passes g xs = true) {k : Nat} (hk : k < xs.length) : passes g (xs.set k (1 - el xs k)) = false := by
  obtain ⟨h1, h2, h3, h4⟩ := passes_parts h
  rw [set_sum h1 hk, passes_sum h (damage_length (by simp; omega)).symm]
  have := burst_loud (g := g) (n := xs.length) (i := k) (bs := [1]) h2 (by have := (deg_lt h2).1; simpa using this) (by decide)
  simp [this]
set_option maxHeartbeats 2000000 in
theorem walkCheckSum (a : Option Addr) (c : Nat) (ds : List Int) (w : World) (hx : Ints .u8 w w.heap.size a ds) (hw : ∀ n ∈ ds, (Lit.int .u8 n).wf = true) (hc : ds.length ≤ c) (hcm : c ≤ maxLen) :
    Calls Try.prog 10 #[.slice a ds.length c] w fun e w' => e = .returned (.bool true) ∧ Below w.heap.size w w' := by
  have hb := isByte_of_wf hw
  clear hw
  by_cases hl : ds.length ≤ 1048576
  · go_enter Try.func10, Try.ntmps10
    go_wp2_with fail
    refine (drawCheckAppend_any a c ds w hx hb hc hcm).mono ?_
    rintro e w1 ⟨xs, a1, c1, g, rfl, ⟨l1, l2, l3⟩, ⟨hg1, hg2⟩, i1, b1⟩
    have I1 := Lib.hid i1
    have B1 := Lib.hid b1
    have L1 := Lib.hid (show xs.length ≤ maxLen from Nat.le_trans l2 l3)
    clear hx hb hc hcm i1 b1 l3
    have hS := appOr_length g xs
    have z3 : decide (appOr g xs = appOr g xs) = true := by simp
    have HNo := Lib.hid (fun h : appOk g xs = false => appOr_no h)
    have HLen := Lib.hid (fun h : appOk g xs = true => appOr_len h)
    have HSum := Lib.hid (fun h : appOk g xs = true => sum_app h (appOk_reverse h) (show xs.length = xs.reverse.length by simp))
    generalize hSS : appOr g xs = S at *
    have HS := Lib.hid hSS
    clear hSS
    go_wp2_with fail
    refine (checkAppend_any a1 c1 xs g w1 I1.out L1.out).mono ?_
    rw [HS.out]
    rintro e w2 ⟨v2, cv2, rfl, _, o2, b2⟩
    have V2 := Lib.hid (own_of_list o2).ints
    have I2 := Lib.hid (I1.out.next b2)
    have B2 := Lib.hid (Below.next B1.out (Nat.le_refl _) b2)
    clear o2 b2
    go_wp2_with fail
    refine (specCheckAppend_any a1 c1 xs g w2 I2.out L1.out).mono ?_
    rw [HS.out]
    rintro e w3 ⟨v3, cv3, rfl, _, o3, b3⟩
    have U3 := Lib.hid (own_of_list o3).ints
    have V3 := Lib.hid (V2.out.next b3)
    have I3 := Lib.hid (I2.out.next b3)
    have B3 := Lib.hid (Below.next B2.out (Nat.le_refl _) b3)
    clear o3 b3 I1 I2 V2
    go_wp2_with fail
    refine (sameInts_any v2 v3 cv2 cv3 w3.heap.size w3.heap.size S S w3 V3.out U3.out hS).mono ?_
    rintro e w4 ⟨rfl, n4, rfl⟩
    have B4 := Lib.hid (below_drewN B3.out n4)
    have V4 : Hid (Ints .i64 (w3.drewN n4) (w3.drewN n4).heap.size v2 S) := V3.out
    have I4 : Hid (Ints .i64 (w3.drewN n4) (w3.drewN n4).heap.size a1 xs) := I3.out
    clear B1 B2 B3 V3 U3 I3 z3
    generalize w3.drewN n4 = w5 at *
    cases hok : appOk g xs
    · have h0 : S.length = 0 := by rw [HNo.out hok]; rfl
      have heq : ((S.length : Int) == 0) = true := by rw [h0]; rfl
      clear hok h0
      go_wp2_with fail
      refine (alive_any w5).mono ?_
      rintro e w6 ⟨rfl, b6⟩
      have B6 := Lib.hid (Below.next B4.out (Nat.le_refl _) b6)
      clear b6
      go_wp2
      go_ret
      exact ⟨rfl, B6.out⟩
    · have hne : 1 ≤ S.length := by
        rw [HLen.out hok]
        have := (deg_lt (appOk_parts hok).2.1).1
        omega
      have heq : ((S.length : Int) == 0) = false := by rw [beq_eq_false_iff_ne]; omega
      have HOk := Lib.hid (HSum.out hok)
      clear hok hne HNo HLen HSum
      go_wp2
      go_loopw [6, 7] (fun s i wr => ∃ (q n : Nat) (v : Option Addr) (cap : Nat), q ≤ xs.length ∧ Idx q i ∧ s = .slice v n cap ∧ RevRel xs w5 q n v cap wr) (fun _ i _ => (intOf i + 1).toNat)
      case atStart => exact ⟨xs.length, 0, _, _, Nat.le_refl _, idx_pred _, rfl, by omega, Grow.lit0 _ _ _ _ (Nat.le_refl _), (Below.refl _ _).alloc (Nat.le_refl _) _⟩
      case round =>
        obtain ⟨q, n, v, cap, hq, hj, rfl, hn, hgr, hbel⟩ := hrel
        have HN := Lib.hid hn
        have HG := Lib.hid hgr
        have HBe := Lib.hid hbel
        have hsz : w5.heap.size ≤ wr.heap.size := hbel.size
        have hnn : n ≤ 1100 := by omega
        clear hn hgr hbel
        rcases hj with ⟨rfl, rfl⟩ | ⟨j, rfl, rfl⟩
        · have HG2 : Hid (Ints .i64 wr wr.heap.size v xs.reverse) := by
            have := HG.out.ints
            rw [List.take_of_length_le (by have := HN.out; simp; omega)] at this
            exact this
          have hnr : n = xs.reverse.length := by have := HN.out; simp; omega
          subst hnr
          have B6 := Lib.hid (Below.next B4.out (Nat.le_refl _) HBe.out)
          have V6 := Lib.hid (V4.out.next HBe.out)
          have hlr : xs.reverse.length ≤ maxLen := by rw [List.length_reverse]; exact L1.out
          have hapl : (appOr g xs.reverse).length ≤ 1048576 := appOr_length g _
          have HC := Lib.hid (checkAppend_any v cap xs.reverse g wr HG2.out hlr)
          clear HG HN hlr
          generalize xs.reverse = rs at *
          go_wp2_with fail
          refine HC.out.mono ?_
          generalize appOr g rs = T at *
          rintro e w7 ⟨v7, c7, rfl, _, o7, b7⟩
          have V7 := Lib.hid (V6.out.next b7)
          have U7 := Lib.hid (own_of_list o7).ints
          have B7 := Lib.hid (Below.next B6.out (Nat.le_refl _) b7)
          clear o7 b7 HC
          go_wp2_with fail
          refine (addBits_room v2 v7 cv2 c7 w7.heap.size w7.heap.size S T w7 V7.out U7.out (Nat.le_refl _) (Nat.le_refl _)).mono ?_
          generalize sumOr S T = Z at *
          rintro e w8 ⟨v8, c8, rfl, r8, o8, b8⟩
          have U8 := Lib.hid (own_of_list o8).ints
          have R8 := Lib.hid r8
          have B8 := Lib.hid (Below.next B7.out (Nat.le_refl _) b8)
          clear o8 b8 r8
          have hcp := checkPasses_any v8 c8 Z g w8 U8.out R8.out.1 R8.out.2
          rw [HOk.out] at hcp
          have HCP := Lib.hid hcp
          clear hcp
          go_wp2_with fail
          refine HCP.out.mono ?_
          rintro e w9 ⟨rfl, b9⟩
          have B9 := Lib.hid (Below.next B8.out (Nat.le_refl _) b9)
          clear b9
          go_wp2
          go_ret
          exact ⟨rfl, B9.out⟩
        · obtain ⟨b, off, rfl, hb', hc⟩ := (I4.out.next HBe.out).at_ (i := j) (by omega)
          go_wp2_with (at_builtin; refine wpList_append1 (.tmp 37) (.tmp 42) w5.heap.size v n cap _ ⟨wr.heap.size, 0, none⟩ (el xs j) rfl rfl rfl rfl (HG.out.alloc _) (by simp) (by omega) (by simp; omega) ?_; intro a3 cap3 w3 hg3 hb3; have HG3 := Lib.hid hg3; have HB3 := Lib.hid hb3; clear hg3 hb3)
          go_roundw
          case rel => exact ⟨j, n + 1, a3, cap3, by omega, idx_pred j, rfl, by have := HN.out; omega, by rw [rev_take HN.out]; exact HG3.out, (HBe.out.alloc hsz _).trans HB3.out⟩
          case measure => simp [intOf]
  · go_enter Try.func10, Try.ntmps10
    go_wp2
    go_ret
    exact ⟨rfl, Below.refl _ _⟩
set_option maxHeartbeats 2000000 in
theorem walkCheckAppend (a : Option Addr) (c : Nat) (ds : List Int) (a' : Option Addr) (c' : Nat) (es : List Int) (w : World)
    (hx : Ints .u8 w w.heap.size a ds) (hw : ∀ n ∈ ds, (Lit.int .u8 n).wf = true) (hc : ds.length ≤ c) (hcm : c ≤ maxLen)
    (_hy : Ints .u8 w w.heap.size a' es) (_hw' : ∀ n ∈ es, (Lit.int .u8 n).wf = true) (_hc' : es.length ≤ c') (_hcm' : c' ≤ maxLen) :
    Calls Try.prog 6 #[.slice a ds.length c, .slice a' es.length c'] w fun e w' => e = .returned (.bool true) ∧ Below w.heap.size w w' := by
  have hb := isByte_of_wf hw
  clear hw _hy _hw' _hc' _hcm'
  by_cases hl : ds.length ≤ 1048576
  · by_cases hl' : es.length ≤ 1048576
    · go_enter Try.func6, Try.ntmps6
      go_wp2_with fail
      refine (drawCheckAppend_any a c ds w hx hb hc hcm).mono ?_
      rintro e w1 ⟨xs, a1, c1, g, rfl, ⟨l1, l2, l3⟩, ⟨hg1, hg2⟩, i1, b1⟩
      have I1 := Lib.hid i1
      have B1 := Lib.hid b1
      have L1 := Lib.hid (show xs.length ≤ maxLen from Nat.le_trans l2 l3)
      clear hx hb hc hcm i1 b1 l3
      have hS := appOr_length g xs
      have z3 : decide (appOr g xs = appOr g xs) = true := by simp
      have HNo := Lib.hid (fun h : appOk g xs = false => appOr_no h)
      have HLen := Lib.hid (fun h : appOk g xs = true => appOr_len h)
      have HPa := Lib.hid (fun h : appOk g xs = true => passes_app h)
      have HTk := Lib.hid (fun h : appOk g xs = true => show (appOr g xs).take xs.length = xs by rw [appOr_yes h]; simp)
      generalize hSS : appOr g xs = S at *
      have HS := Lib.hid hSS
      clear hSS
      go_wp2_with fail
      refine (checkAppend_any a1 c1 xs g w1 I1.out L1.out).mono ?_
      rw [HS.out]
      rintro e w2 ⟨v2, cv2, rfl, r2, o2, b2⟩
      have V2 := Lib.hid (own_of_list o2).ints
      have R2 := Lib.hid r2
      have I2 := Lib.hid (I1.out.next b2)
      have B2 := Lib.hid (Below.next B1.out (Nat.le_refl _) b2)
      clear o2 b2 r2
      go_wp2_with fail
      refine (specCheckAppend_any a1 c1 xs g w2 I2.out L1.out).mono ?_
      rw [HS.out]
      rintro e w3 ⟨v3, cv3, rfl, _, o3, b3⟩
      have U3 := Lib.hid (own_of_list o3).ints
      have V3 := Lib.hid (V2.out.next b3)
      have I3 := Lib.hid (I2.out.next b3)
      have B3 := Lib.hid (Below.next B2.out (Nat.le_refl _) b3)
      clear o3 b3 I1 I2 V2
      go_wp2_with fail
      refine (sameInts_any v2 v3 cv2 cv3 w3.heap.size w3.heap.size S S w3 V3.out U3.out hS).mono ?_
      rintro e w4 ⟨rfl, n4, rfl⟩
      have B4 := Lib.hid (below_drewN B3.out n4)
      have V4 : Hid (Ints .i64 (w3.drewN n4) (w3.drewN n4).heap.size v2 S) := V3.out
      have I4 : Hid (Ints .i64 (w3.drewN n4) (w3.drewN n4).heap.size a1 xs) := I3.out
      clear B1 B2 B3 V3 U3 I3 z3
      generalize w3.drewN n4 = w5 at *
      cases hok : appOk g xs
      · have h0 : S.length = 0 := by rw [HNo.out hok]; rfl
        have heq : ((S.length : Int) == 0) = true := by rw [h0]; rfl
        clear hok h0
        go_wp2_with fail
        refine (alive_any w5).mono ?_
        rintro e w6 ⟨rfl, b6⟩
        have B6 := Lib.hid (Below.next B4.out (Nat.le_refl _) b6)
        clear b6
        go_wp2
        go_ret
        exact ⟨rfl, B6.out⟩
      · have hd1 := (deg_lt (appOk_parts hok).2.1).1
        have hSl := HLen.out hok
        have hap := (appOk_parts hok).2.2
        have hne : 1 ≤ S.length := by omega
        have hxS : xs.length ≤ S.length := by omega
        have heq : ((S.length : Int) == 0) = false := by rw [beq_eq_false_iff_ne]; omega
        have HP := Lib.hid (HPa.out hok)
        have HT := Lib.hid (HTk.out hok)
        have HB0 := Lib.hid (passes_parts HP.out).1
        have hcv : S.length ≤ cv2 := R2.out.1
        have hxcv : xs.length ≤ cv2 := by omega
        have hS2 : S.length ≤ 1024 := by omega
        obtain ⟨k, hk⟩ : ∃ k, k = es.length % S.length := ⟨_, rfl⟩
        have hkS : k < S.length := by rw [hk]; exact Nat.mod_lt _ (by omega)
        have hrem : (es.length : Int) % (S.length : Int) = (k : Int) := by rw [hk]; rfl
        have HBad := Lib.hid (bad_fails HP.out hkS)
        obtain ⟨x, hxx⟩ : ∃ x, x = el S k := ⟨_, rfl⟩
        have hx01 : x = 0 ∨ x = 1 := by rw [hxx]; exact bit_cases HB0.out hkS
        rw [← hxx] at HBad
        have HXx := Lib.hid hxx
        have hx0 : 0 ≤ x := by omega
        have hx1 : x ≤ 1 := by omega
        have VA := Lib.hid (fun o : Obj => V4.out.below ((Below.refl w5.heap.size w5).alloc (Nat.le_refl _) o))
        have BA := Lib.hid (fun o : Obj => (Below.refl w5.heap.size w5).alloc (Nat.le_refl _) o)
        clear hok hk hxx hx01 HNo HLen HPa HTk hd1 hSl hap
        go_wp2_with (at_builtin; refine wpList_appendA (.tmp 36) (.tmp 37) w5.heap.size (some ⟨w5.heap.size, 0, none⟩) v2 0 0 S.length cv2 w5.heap.size [] S rfl rfl rfl rfl (Grow.lit0 _ _ _ _ (Nat.le_refl _)) (VA.out _) rfl (by omega) (by simp) ?_; intro a6 cap6 w6 hg6 hb6 _; rw [Nat.zero_add, List.nil_append] at hg6; have HB6 := Lib.hid ((BA.out _).trans hb6); obtain ⟨b6, f6, rfl, hw6, hb6b, hn6, hrow6, hf6⟩ := hg6.row (by omega); have hc6 : w6.cell? ⟨b6, k, none⟩ = some (.int .i64 x) := (by rw [hrow6.cell (by omega), hf6 k hkS, HXx.out]); have hfz6 := hrow6.frozen k; have HI7 := Lib.hid (ints_set (k := k) (v := 1 - x) hrow6 hf6 hn6); have HB7 := Lib.hid (HB6.out.setCell (p := ⟨b6, k, none⟩) hw6 (.int .i64 (1 - x))); have HRm := Lib.hid hg6.room; clear hg6 hb6 hrow6 hf6 HB6)
        have V7 := Lib.hid (V4.out.next HB7.out)
        have I7 := Lib.hid (I4.out.next HB7.out)
        have B7 := Lib.hid (Below.next B4.out (Nat.le_refl _) HB7.out)
        clear HB7 VA BA
        generalize w6.setCell ⟨b6, k, none⟩ (.int .i64 (1 - x)) = w7 at *
        have hsm := sameInts_any v2 a1 cv2 c1 w7.heap.size w7.heap.size (S.take xs.length) xs w7 V7.out.take I7.out (by simp; omega)
        rw [HT.out] at hsm
        have zz : decide (xs = xs) = true := by simp
        have HSm := Lib.hid hsm
        clear hsm
        refine HSm.out.mono ?_
        rintro e w8 ⟨rfl, n8, rfl⟩
        have B8 := Lib.hid (below_drewN B7.out n8)
        have V8 : Hid (Ints .i64 (w7.drewN n8) (w7.drewN n8).heap.size v2 S) := V7.out
        have I8 : Hid (Ints .i64 (w7.drewN n8) (w7.drewN n8).heap.size (some ⟨b6, 0, none⟩) (S.set k (1 - x))) := HI7.out
        clear V7 B7 HI7 HSm I7
        generalize w7.drewN n8 = w8 at *
        have h9 := checkPasses_any v2 cv2 S g w8 V8.out R2.out.1 R2.out.2
        rw [HP.out] at h9
        have H9 := Lib.hid h9
        clear h9
        go_wp2_with fail
        refine H9.out.mono ?_
        rintro e w10 ⟨rfl, b10⟩
        have I10 := Lib.hid (I8.out.next b10)
        have B10 := Lib.hid (Below.next B8.out (Nat.le_refl _) b10)
        clear b10
        have h11 := checkPasses_any (some ⟨b6, 0, none⟩) cap6 (S.set k (1 - x)) g w10 I10.out (by rw [List.length_set]; exact HRm.out.1) HRm.out.2
        rw [HBad.out, List.length_set] at h11
        have H11 := Lib.hid h11
        clear h11
        go_wp2_with fail
        refine H11.out.mono ?_
        rintro e w12 ⟨rfl, b12⟩
        have B12 := Lib.hid (Below.next B10.out (Nat.le_refl _) b12)
        clear b12
        go_wp2
        go_ret
        exact ⟨rfl, B12.out⟩
    · go_enter Try.func6, Try.ntmps6
      go_wp2
      go_ret
      exact ⟨rfl, Below.refl _ _⟩
  · go_enter Try.func6, Try.ntmps6
    go_wp2
    go_ret
    exact ⟨rfl, Below.refl _ _⟩
end Go.Proofs.Ytnmpeeailljdaaa
