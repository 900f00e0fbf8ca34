/-
  The laws of the stream code that begin with a code, walked: two errors are corrected; the code is linear, and decoding returns the bits: they return true for every code, and write into nothing that was there. Condition: the program's two tables of the stream code lie in their variables.
-/
import Derived.Test.YtnjjblcigcblhaaDoorStrLaw1
namespace Go.Proofs.YtnjjblcigcblhaaDoor
open Go.RowKit

theorem twoFlips {xs : List Int} (h : strOk xs = true) (i j : Nat) {u v : Int} (hu : isBit u = true) (hv : isBit v = true) : decOr7 (((codeL xs).set i u).set j v) = xs := by
  have hk := codedOk_set (codedOk_set (code_ok h) i hu) j hv
  have hl := codeL_length xs
  have hb := (strOk_parts h).2
  rw [decOr7_yes hk]
  refine dec_near hb hk (by simp [hl]) ?_
  have d1 := dist_set1 (codeL xs) i u
  have d2 := dist_set (xs := codeL xs) (ys := (codeL xs).set i u) (by simp) j v
  omega
theorem oneFlip {xs : List Int} (h : strOk xs = true) (i : Nat) {u : Int} (hu : isBit u = true) : decOr7 ((codeL xs).set i u) = xs := by
  have hk := codedOk_set (code_ok h) i hu
  have hl := codeL_length xs
  rw [decOr7_yes hk]
  refine dec_near (strOk_parts h).2 hk (by simp [hl]) ?_
  have := dist_set1 (codeL xs) i u
  omega
set_option maxHeartbeats 2000000 in
theorem walkStreamTwo (a : Option Addr) (c : Nat) (ds : List Int) (a' : Option Addr) (c' : Nat) (es : List Int) (w : World)
    (hx : Ints .u8 w w.heap.size a ds) (hw : ∀ n ∈ ds, (Lit.int .u8 n).wf = true) (hc : ds.length ≤ c) (hcm : c ≤ maxLen)
    (_hy : Ints .u8 w w.heap.size a' es) (_hw' : ∀ n ∈ es, (Lit.int .u8 n).wf = true) (_hc' : es.length ≤ c') (_hcm' : c' ≤ maxLen) (hT : StrTabs w) :
    Calls Tryd.prog 6 #[.slice a ds.length c, .slice a' es.length c'] w fun e w' => e = .returned (.bool true) ∧ Below w.heap.size w w' := by
  have hb := isByte_of_wf hw
  have HT := Lib.hid hT
  clear hw hT _hy _hw' _hc' _hcm'
  by_cases hl : ds.length ≤ 1048576 ∧ es.length ≤ 1048576
  · obtain ⟨hl, hl'⟩ := hl
    go_enter Tryd.func6, Tryd.ntmps6
    go_wp2_with fail
    refine (drawEncodeStream_any a c ds w hx hb hc hcm).mono ?_
    rintro e w1 ⟨xs, a1, c1, rfl, ⟨l1, l2, l3⟩, i1, b1⟩
    have X1 := Lib.hid i1
    have B1 := Lib.hid b1
    clear hx hb hc hcm i1 b1
    obtain ⟨S, hS⟩ : ∃ S, S = strOr xs := ⟨_, rfl⟩
    have HS := Lib.hid hS
    have hSl : S.length ≤ 84 := by rw [hS]; exact strOr_length xs
    have z3 : decide (S = S) = true := by simp
    clear hS
    go_wp2_with fail
    refine (encodeStream_any a1 c1 xs w1 X1.out (by unfold maxLen; omega) (HT.out.next B1.out)).mono ?_
    rw [← HS.out]
    rintro e w2 ⟨v2, cv2, rfl, r2, o2, b2⟩
    have S2 := Lib.hid (own_of_list o2)
    have X2 := Lib.hid (X1.out.below b2)
    have B2 := Lib.hid (Below.next B1.out (Nat.le_refl _) b2)
    have s1 : w.heap.size ≤ w1.heap.size := B1.out.size
    have s2 : w1.heap.size ≤ w2.heap.size := b2.size
    have hcv : S.length ≤ cv2 := r2.1
    clear o2 b2 r2 X1
    go_wp2_with fail
    refine (specEncodeStream_new a1 c1 xs w2 (X2.out.more s2) (by unfold maxLen; omega)).mono ?_
    rw [← HS.out]
    rintro e w3 ⟨g3, n3, cap3, rfl, hg3, b3⟩
    obtain rfl : S.length = n3 := hg3.len
    have U3 := Lib.hid hg3.ints
    have S3 := Lib.hid (S2.out.next b3)
    have X3 := Lib.hid (X2.out.below (b3.mono s2))
    have B3 := Lib.hid (Below.next B2.out (Nat.le_refl _) b3)
    have s3 : w2.heap.size ≤ w3.heap.size := b3.size
    clear hg3 b3 S2 X2 B2
    go_wp2_with fail
    refine (sameInts_any v2 _ cv2 cap3 w2.heap.size w3.heap.size S S w3 S3.out.ints U3.out (by omega)).mono ?_
    rintro e w4 ⟨rfl, n4, rfl⟩
    have B4 := Lib.hid (below_drewN B3.out n4)
    have S4 : Hid (Own .i64 3 (w3.drewN n4) w1.heap.size w2.heap.size v2 S) := S3.out
    have X4 : Hid (Ints .i64 (w3.drewN n4) w1.heap.size a1 xs) := X3.out
    have s4 : w2.heap.size ≤ (w3.drewN n4).heap.size := s3
    clear S3 X3 B3 U3 s3
    generalize w3.drewN n4 = w4 at *
    by_cases hs0 : S.length = 0
    · have z4 : ((S.length : Int) == 0) = true := by simp [hs0]
      clear hs0
      go_wp2_with fail
      refine (alive_any w4).mono ?_
      rintro e w8 ⟨rfl, b8⟩
      have B8 := Lib.hid (Below.next B4.out (Nat.le_refl _) b8)
      clear b8
      go_wp2
      go_ret
      exact ⟨rfl, B8.out⟩
    · have z4 : ((S.length : Int) == 0) = false := by rw [beq_eq_false_iff_ne]; omega
      have hok := strOr_pos (xs := xs) (by rw [← HS.out]; omega)
      have eS := HS.out.trans (strOr_yes hok)
      have hbS : S.all isBit = true := by rw [eS]; exact codeL_bits (strOk_parts hok).2
      have HOK := Lib.hid (And.intro hok eS)
      obtain ⟨b, rfl, hb1, hb2⟩ := S4.out.block (by omega)
      obtain ⟨i, hi⟩ : ∃ i, i = es.length % S.length := ⟨_, rfl⟩
      obtain ⟨j, hj⟩ : ∃ j, j = es.length / 7 % S.length := ⟨_, rfl⟩
      have hiN : i < S.length := by rw [hi]; exact Nat.mod_lt _ (by omega)
      have hjN : j < S.length := by rw [hj]; exact Nat.mod_lt _ (by omega)
      have ei : (es.length : Int) % (S.length : Int) = (i : Int) := by rw [hi]; rfl
      have ej : (es.length : Int) / 7 % (S.length : Int) = (j : Int) := by rw [hj]; rfl
      have hwb : w.heap.size ≤ b := by omega
      have q1 := List.all_eq_true.1 hbS _ (el_mem (show i < S.length by omega))
      obtain ⟨hc1, hf1, _, _⟩ := S4.out.cellAt hiN
      obtain ⟨u, hu⟩ : ∃ u, u = el S i := ⟨_, rfl⟩
      rw [← hu] at hc1 q1
      have hu0 : 0 ≤ u ∧ u ≤ 1 := by rcases isBit_cases q1 with h | h <;> rw [h] <;> decide
      obtain ⟨hu0, hu1⟩ := hu0
      have S5 := Lib.hid (S4.out.setAt (1 - u) hiN)
      have B5 := Lib.hid (B4.out.setCell (p := ⟨b, i, none⟩) hwb (.int .i64 (1 - u)))
      have X5 := Lib.hid (X4.out.below ((Below.refl w1.heap.size w4).setCell (p := ⟨b, i, none⟩) hb1 (.int .i64 (1 - u))))
      have hs5 : w2.heap.size ≤ (w4.setCell ⟨b, i, none⟩ (.int .i64 (1 - u))).heap.size := by simpa [World.setCell] using s4
      have hs15 : w1.heap.size ≤ (w4.setCell ⟨b, i, none⟩ (.int .i64 (1 - u))).heap.size := by omega
      have z9 : decide (xs = xs) = true := by simp
      have F1 := Lib.hid (flip_bit q1)
      by_cases hij : j = i
      · have zj : ((j : Int) != (i : Int)) = false := by rw [hij]; simp
        have hdec := oneFlip hok i F1.out
        rw [← eS] at hdec
        have hd := decodeStream_any (some ⟨b, 0, none⟩) cv2 (S.set i (1 - u)) _ (S5.out.ints.more hs5) (by simp; unfold maxLen; omega) (HT.out.next B5.out)
        rw [List.length_set, hdec] at hd
        have HD := Lib.hid hd
        clear hij hd hdec hi hj hu eS hbS hok q1 hs0 S5
        go_wp2_with fail
        refine HD.out.mono ?_
        rintro e w7 ⟨v7, cv7, rfl, _, o7, b7⟩
        have Y7 := Lib.hid (own_of_list o7).ints
        have X7 := Lib.hid ((X5.out.below (b7.mono hs15)).more (Nat.le_trans hs15 b7.size))
        have B7 := Lib.hid (Below.next B5.out (Nat.le_refl _) b7)
        clear o7 b7
        go_wp2_with fail
        refine (sameInts_any v7 a1 cv7 c1 w7.heap.size w7.heap.size xs xs w7 Y7.out X7.out (by omega)).mono ?_
        rintro e w8 ⟨rfl, n8, rfl⟩
        go_wp2
        go_ret
        exact ⟨rfl, below_drewN B7.out n8⟩
      · have zj : ((j : Int) != (i : Int)) = true := by simp; omega
        have q2 : isBit (el (S.set i (1 - u)) j) = true := List.all_eq_true.1 (set_bits7 hbS i F1.out) _ (el_mem (by simp; omega))
        obtain ⟨hc2, hf2, _, _⟩ := S5.out.cellAt (i := j) (by simp; omega)
        obtain ⟨v, hv⟩ : ∃ v, v = el (S.set i (1 - u)) j := ⟨_, rfl⟩
        rw [← hv] at hc2 q2
        have hv0 : 0 ≤ v ∧ v ≤ 1 := by rcases isBit_cases q2 with h | h <;> rw [h] <;> decide
        obtain ⟨hv0, hv1⟩ := hv0
        have S6 := Lib.hid (S5.out.setAt (i := j) (1 - v) (by simp; omega))
        have B6 := Lib.hid (B5.out.setCell (p := ⟨b, j, none⟩) hwb (.int .i64 (1 - v)))
        have X6 := Lib.hid (X5.out.below ((Below.refl w1.heap.size (w4.setCell ⟨b, i, none⟩ (.int .i64 (1 - u)))).setCell (p := ⟨b, j, none⟩) hb1 (.int .i64 (1 - v))))
        have hs6 : w2.heap.size ≤ ((w4.setCell ⟨b, i, none⟩ (.int .i64 (1 - u))).setCell ⟨b, j, none⟩ (.int .i64 (1 - v))).heap.size := by simpa [World.setCell] using s4
        have hs16 : w1.heap.size ≤ ((w4.setCell ⟨b, i, none⟩ (.int .i64 (1 - u))).setCell ⟨b, j, none⟩ (.int .i64 (1 - v))).heap.size := by omega
        have hdec := twoFlips hok i j F1.out (flip_bit q2)
        rw [← eS] at hdec
        have hd := decodeStream_any (some ⟨b, 0, none⟩) cv2 ((S.set i (1 - u)).set j (1 - v)) _ (S6.out.ints.more hs6) (by simp; unfold maxLen; omega) (HT.out.next B6.out)
        rw [List.length_set, List.length_set, hdec] at hd
        have HD := Lib.hid hd
        clear hij hd hdec hi hj hu eS hbS hok q1 hs0 S5 S6 q2 hv
        go_wp2_with fail
        refine HD.out.mono ?_
        rintro e w7 ⟨v7, cv7, rfl, _, o7, b7⟩
        have Y7 := Lib.hid (own_of_list o7).ints
        have X7 := Lib.hid ((X6.out.below (b7.mono hs16)).more (Nat.le_trans hs16 b7.size))
        have B7 := Lib.hid (Below.next B6.out (Nat.le_refl _) b7)
        clear o7 b7
        go_wp2_with fail
        refine (sameInts_any v7 a1 cv7 c1 w7.heap.size w7.heap.size xs xs w7 Y7.out X7.out (by omega)).mono ?_
        rintro e w8 ⟨rfl, n8, rfl⟩
        go_wp2
        go_ret
        exact ⟨rfl, below_drewN B7.out n8⟩
  · by_cases hl1 : ds.length ≤ 1048576
    · have hl2 : ¬ es.length ≤ 1048576 := fun h => hl ⟨hl1, h⟩
      clear hl
      go_enter Tryd.func6, Tryd.ntmps6
      go_wp2
      go_ret
      exact ⟨rfl, Below.refl _ _⟩
    · clear hl
      go_enter Tryd.func6, Tryd.ntmps6
      go_wp2
      go_ret
      exact ⟨rfl, Below.refl _ _⟩
end Go.Proofs.YtnjjblcigcblhaaDoor
