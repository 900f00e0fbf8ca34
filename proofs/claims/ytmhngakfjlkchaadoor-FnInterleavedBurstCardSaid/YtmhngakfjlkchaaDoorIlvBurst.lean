/-
  The law of bursts in an interleaved code, walked: a burst that is not longer than the number of blocks is corrected; it returns true for every two codes, and writes into nothing that was there. Condition: the program's tables lie in their variables.
-/
import Derived.Test.YtmhngakfjlkchaaDoorIlv2
import Derived.Test.YtmhngakfjlkchaaDoorNibDraw2
import Derived.Test.YtmhngakfjlkchaaDoorNibMath2
import Derived.Test.YtmhngakfjlkchaaDoorNibLaw1
namespace Go.Proofs.YtmhngakfjlkchaaDoor
open Go.RowKit

/-- Z is Y with the m numbers from a on inverted. -/
def Flip8 (Y Z : List Int) (a m : Nat) : Prop := Z.length = Y.length ∧ Z.all isBit = true ∧ ∀ i, i < Y.length → el Z i = if a ≤ i ∧ i < a + m then 1 - el Y i else el Y i
theorem flip8_start {Y : List Int} (hb : Y.all isBit = true) (a : Nat) : Flip8 Y Y a 0 := ⟨rfl, hb, fun i _ => by rw [if_neg (by omega)]⟩
theorem el_set8 {L : List Int} {k i : Nat} {v : Int} (hi : i < L.length) : el (L.set k v) i = if i = k then v else el L i := by
  by_cases e : i = k
  · subst e; simp [el, hi]
  · have e2 : ¬ k = i := fun x => e x.symm
    simp [el, e, e2]
theorem flip8_step {Y Z : List Int} {a m : Nat} (h : Flip8 Y Z a m) (hk : a + m < Y.length) : Flip8 Y (Z.set (a + m) (1 - el Z (a + m))) a (m + 1) := by
  obtain ⟨h1, h2, h3⟩ := h
  refine ⟨by rw [List.length_set]; exact h1, set_bits h2 (by omega), fun i hi => ?_⟩
  rw [el_set8 (by omega)]
  by_cases e : i = a + m
  · rw [if_pos e, if_pos (by omega), ← e, h3 i hi, if_neg (by omega)]
  · rw [if_neg e, h3 i hi]
    by_cases h4 : a ≤ i ∧ i < a + m
    · rw [if_pos h4, if_pos (by omega)]
    · rw [if_neg h4, if_neg (by omega)]
/-- The place in word i that a burst of N from a on hits. -/
theorem place8 {N a i : Nat} (hN : 1 ≤ N) (ha : a ≤ 6 * N) (hi : i < N) : ∃ p0, p0 < 7 ∧ ∀ p, (a ≤ p * N + i ∧ p * N + i < a + N) ↔ p = p0 := by
  obtain ⟨x, hx⟩ : ∃ x, x = a + (N - 1) - i := ⟨_, rfl⟩
  have e := Nat.div_add_mod x N
  have hr : x % N < N := Nat.mod_lt _ hN
  obtain ⟨p0, hp0⟩ : ∃ p0, p0 = x / N := ⟨_, rfl⟩
  obtain ⟨r, hrr⟩ : ∃ r, r = x % N := ⟨_, rfl⟩
  rw [← hp0, ← hrr] at e
  rw [← hrr] at hr
  have hc : N * p0 = p0 * N := Nat.mul_comm _ _
  have h1 : p0 * N + i ≤ a + (N - 1) := by omega
  have h2 : a ≤ p0 * N + i := by omega
  refine ⟨p0, ?_, fun p => ⟨fun ⟨g1, g2⟩ => ?_, fun e => by subst e; omega⟩⟩
  · apply Classical.byContradiction
    intro h
    have : 7 * N ≤ p0 * N := Nat.mul_le_mul_right N (by omega)
    omega
  · apply Classical.byContradiction
    intro h
    rcases Nat.lt_or_gt_of_ne h with h | h
    · have h5 : (p + 1) * N ≤ p0 * N := Nat.mul_le_mul_right N h
      rw [Nat.add_mul, Nat.one_mul] at h5
      omega
    · have h5 : (p0 + 1) * N ≤ p * N := Nat.mul_le_mul_right N h
      rw [Nat.add_mul, Nat.one_mul] at h5
      omega
/-- A code, interleaved with a row for each word, with a burst of as many bits as there are words, deinterleaved: one bit of each word is inverted. -/
theorem burst_hurt {Y Z : List Int} {N a : Nat} (hN : 1 ≤ N) (ha : a ≤ 6 * N) (h : Flip8 (ilv (encK Y N) N 7) Z a N) : Hurt Y (ilv Z 7 N) N N := by
  obtain ⟨h1, h2, h3⟩ := h
  have hX : (encK Y N).length = N * 7 := by rw [encK_length, Nat.mul_comm]
  rw [ilv_length, hX] at h1 h3
  have hZ : Z.length = 7 * N := by rw [h1, Nat.mul_comm]
  refine ⟨by rw [ilv_length, hZ], ilv_bits h2 hZ, fun i hi => ?_, fun i h4 h5 => by omega⟩
  obtain ⟨p0, hp0, hp⟩ := place8 hN ha hi
  refine ⟨p0, hp0, ?_⟩
  have hi7 : 7 * i + 7 ≤ 7 * N := by omega
  have hlw : (encW (part 4 Y i)).length = 7 := encW_length _
  refine list_ext (by rw [part_length (by rw [ilv_length, hZ]; exact hi7), List.length_set, hlw]) fun p hlt => ?_
  rw [part_length (by rw [ilv_length, hZ]; exact hi7)] at hlt
  have hpn : p * N + i < N * 7 := by
    have h6 : (p + 1) * N ≤ 7 * N := Nat.mul_le_mul_right N (by omega)
    rw [Nat.add_mul, Nat.one_mul] at h6
    omega
  rw [part_el hlt, ilv_el (by rw [hZ]; omega), show 7 * i + p = i * 7 + p by omega, pm8_at hlt, h3 _ hpn, ilv_el (by rw [hX]; exact hpn), pm8_at hi, show i * 7 + p = 7 * i + p by omega,
    ← part_el (m := 7) (k := i) hlt, part_encK _ _ _ hi, el_set8 (by rw [hlw]; exact hlt)]
  by_cases e : p = p0
  · rw [if_pos ((hp p).2 e), if_pos e, e]
  · rw [if_neg (fun h => e ((hp p).1 h)), if_neg e]
theorem div_mul8 {R C n : Nat} (hR : 1 ≤ R) (h : n = R * C) : n / R = C := by rw [h]; exact Nat.mul_div_cancel_left C hR
/-- The blocks of a code that can be interleaved: what the law computes. -/
theorem burst_facts {xs X : List Int} {N : Nat} (hX : X = encB xs) (hN : N = X.length / 7) (h1 : 1 ≤ N) (h2 : N ≤ 32) : ∃ Y : List Int, Y.length = 7 * N ∧ Y.all isBit = true ∧ ilvOr X (N : Int) = Y ∧
    ∀ a Z, a ≤ 6 * N → Flip8 Y Z a N → ∃ L : List Int, dlvOr Z (N : Int) = L ∧ L.length = 7 * N ∧ decB L = xs ∧ fixB L = N := by
  have hok : blkOk 4 xs = true := by
    cases h : blkOk 4 xs
    · rw [encB_no h] at hX; rw [hX] at hN; simp at hN; omega
    · rfl
  obtain ⟨hbo, hmod, hlen⟩ := blkOk_parts hok
  have hbi := bitsOk_all hbo
  have e : X = encK xs (xs.length / 4) := by rw [hX, encB_yes hok]
  have hl : X.length = 7 * (xs.length / 4) := by rw [e, encK_length]
  have hN4 : xs.length / 4 = N := by omega
  rw [hN4] at e hl
  have hxl : xs.length = 4 * N := by omega
  have hXb : X.all isBit = true := by rw [hX]; exact encB_bits xs
  have hX7 : X.length = N * 7 := by rw [hl, Nat.mul_comm]
  have hYb := ilv_bits hXb hX7
  refine ⟨ilv X N 7, by rw [ilv_length, hl], hYb, ilvOr_yes (tabOk_mk h1 h2 (bitsOk_mk hXb (by omega)) hX7) (div_mul8 h1 hX7), fun a Z ha hz => ?_⟩
  have hzl : Z.length = N * 7 := by rw [hz.1, ilv_length, hX7]
  have hzb := hz.2.1
  refine ⟨ilv Z 7 N, dlvOr_yes (tabOk_mk h1 h2 (bitsOk_mk hzb (by omega)) hzl) (div_mul8 h1 hzl), by rw [ilv_length, hzl, Nat.mul_comm], ?_⟩
  rw [e] at hz
  exact (hurt_end (burst_hurt h1 ha hz) hbi hxl (by omega)).2
set_option maxHeartbeats 2000000 in
theorem walkInterleavedBurst (a : Option Addr) (c : Nat) (ds : List Int) (a' : Option Addr) (c' : Nat) (es : List Int) (w : World)
    (hx : Ints .u8 w w.heap.size a ds) (hw : ∀ n ∈ ds, (Lit.int .u8 n).wf = true) (hc : ds.length ≤ c) (hcm : c ≤ maxLen)
    (_hy : Ints .u8 w w.heap.size a' es) (_hw' : ∀ n ∈ es, (Lit.int .u8 n).wf = true) (_hc' : es.length ≤ c') (_hcm' : c' ≤ maxLen) (hS : SynTab w) (hC : CorTab w) :
    Calls Tryd.prog 3 #[.slice a ds.length c, .slice a' es.length c'] w fun e w' => e = .returned (.bool true) ∧ Below w.heap.size w w' := by
  have hb := isByte_of_wf hw
  have HT := Lib.hid hS
  have HC := Lib.hid hC
  clear hw _hw' _hy _hc' _hcm' hS hC
  by_cases hl : ds.length ≤ 1048576
  · by_cases hl' : es.length ≤ 1048576
    · go_enter Tryd.func3, Tryd.ntmps3
      go_wp2_with fail
      refine (drawEncodeBlocks_any a c ds w hx hb hc hcm).mono ?_
      rintro e w1 ⟨xs, a1, c1, rfl, ⟨l1, l2, l3⟩, i1, b1⟩
      have I1 := Lib.hid i1
      have B1 := Lib.hid b1
      have L1 := Lib.hid (show xs.length ≤ maxLen from Nat.le_trans l2 l3)
      have L2 := Lib.hid l2
      clear hx hb hc hcm i1 b1 l3 l2
      obtain ⟨X, hX⟩ : ∃ X, X = encB xs := ⟨_, rfl⟩
      have HXe := Lib.hid hX
      have hXl : X.length ≤ 896 := by rw [hX]; exact encB_len xs
      have z3 : decide (X = X) = true := by simp
      clear hX
      go_wp2_with fail
      refine (encodeBlocks_any a1 c1 xs w1 I1.out L2.out).mono ?_
      rw [← HXe.out]
      rintro e w2 ⟨v2, cv2, rfl, _, o2, b2⟩
      have X2 := Lib.hid (own_of_list o2).ints
      have I2 := Lib.hid (I1.out.next b2)
      have B2 := Lib.hid (Below.next B1.out (Nat.le_refl _) b2)
      clear o2 b2 I1 B1
      go_wp2_with fail
      refine (specEncodeBlocks_any a1 c1 xs w2 I2.out L2.out L1.out).mono ?_
      rw [← HXe.out]
      rintro e w3 ⟨v3, cv3, rfl, _, o3, b3⟩
      have U3 := Lib.hid (own_of_list o3).ints
      have X3 := Lib.hid (X2.out.next b3)
      have I3 := Lib.hid (I2.out.next b3)
      have B3 := Lib.hid (Below.next B2.out (Nat.le_refl _) b3)
      clear o3 b3 I2 B2 X2
      go_wp2_with fail
      refine (sameInts_any v2 v3 cv2 cv3 w3.heap.size w3.heap.size X X w3 X3.out U3.out (by omega)).mono ?_
      rintro e w4 ⟨rfl, n4, rfl⟩
      have B4 := Lib.hid (below_drewN B3.out n4)
      have X4 : Hid (Ints .i64 (w3.drewN n4) (w3.drewN n4).heap.size v2 X) := X3.out
      have I4 : Hid (Ints .i64 (w3.drewN n4) (w3.drewN n4).heap.size a1 xs) := I3.out
      clear X3 I3 U3 B3 z3
      generalize w3.drewN n4 = w4 at *
      obtain ⟨N, hN⟩ : ∃ N, N = X.length / 7 := ⟨_, rfl⟩
      have hdiv : (X.length : Int) / 7 = (N : Int) := by rw [hN]; rfl
      have HN := Lib.hid hN
      have hN128 : N ≤ 128 := by omega
      clear hN
      by_cases h1 : 1 ≤ N
      · by_cases h32 : N ≤ 32
        · obtain ⟨Y, hYl, hYb, hY, hend⟩ := burst_facts HXe.out HN.out h1 h32
          have HY := Lib.hid hY
          have HEnd := Lib.hid hend
          have HYb := Lib.hid hYb
          have hYne : Y ≠ [] := by intro e; rw [e] at hYl; simp at hYl; omega
          obtain ⟨n, hn⟩ : ∃ n, n = Y.length := ⟨_, rfl⟩
          have hn7 : n = 7 * N := by rw [hn, hYl]
          obtain ⟨D, hD⟩ : ∃ D, D = 6 * N + 1 := ⟨_, rfl⟩
          have hDi : (n : Int) - (N : Int) + 1 = (D : Int) := by omega
          obtain ⟨A, hA⟩ : ∃ A, A = es.length % D := ⟨_, rfl⟩
          have hA6 : A ≤ 6 * N := by
            have : es.length % D < D := Nat.mod_lt _ (by omega)
            omega
          have hz0 : ¬ D = 0 := by omega
          have hn1 : n ≤ 896 := by omega
          have r1 : (es.length : Int).tmod (D : Int) = (A : Int) := by rw [Int.tmod_eq_emod_of_nonneg (Int.natCast_nonneg _), hA]; rfl
          have r1' : (es.length : Int) % (D : Int) = (A : Int) := by rw [hA]; rfl
          have HN7 := Lib.hid hn7
          have y1 : decide ((N : Int) < 1) = false := by simp; omega
          have y2 : decide ((32 : Int) < (N : Int)) = false := by simp; omega
          have y3 : decide ((1048576 : Int) < (ds.length : Int)) = false := by simp; omega
          have y4 : decide ((1048576 : Int) < (es.length : Int)) = false := by simp; omega
          have HYn := Lib.hid hn
          have hAn : A + N ≤ n := by omega
          clear hY hend hYb hYl hn hn7 hA hD
          go_wp2_with fail
          refine (interleave_any v2 cv2 X (N : Int) w4 X4.out).mono ?_
          rw [HY.out]
          rintro e w5 ⟨v5, cv5, rfl, _, o5, b5⟩
          obtain ⟨b, cap, rfl, hbb, hrow⟩ := rowOf_list o5 hYne
          have R5 := Lib.hid hrow
          have HR5 := Lib.hid hrow
          have I5 := Lib.hid (I4.out.next b5)
          have B5 := Lib.hid (Below.next B4.out (Nat.le_refl _) b5)
          have hwb : w.heap.size ≤ b := Nat.le_trans B4.out.size hbb
          have hI4 : w4.heap.size ≤ b := hbb
          have HI4 := Lib.hid I4.out
          have HB45 := Lib.hid b5
          clear o5 b5 hrow hbb X4 hYne
          rw [← HYn.out]
          go_wp2
          clear r1 r1' hz0 hDi y1 y2 y3 y4 hdiv R5 I5 B5
          go_loopw [10] (fun i wr => ∃ (k m : Nat) (Z : List Int), (k = A + m ∧ m ≤ N) ∧ i = .int .i64 k ∧ Flip8 Y Z A m ∧ RowOf wr b cap Z ∧ Below w4.heap.size w4 wr) (fun i _ => A + N - (intOf i).toNat)
          case atStart => exact ⟨A, 0, Y, ⟨rfl, Nat.zero_le _⟩, rfl, flip8_start HYb.out A, HR5.out, HB45.out⟩
          case round =>
            obtain ⟨k, m, Z, ⟨hkm, hm⟩, rfl, hfl, hrow, hbel⟩ := hrel
            have hZl : Z.length = n := by rw [hfl.1, HYn.out]
            have HRo := Lib.hid hrow
            have HBe := Lib.hid hbel
            by_cases hlt : k < A + N
            · have hkn : k < n := by omega
              have h01 := all_bit hfl.2.1 (show k < Z.length by omega)
              have hcx := hrow.cell (show k < Z.length by omega)
              have hfx := hrow.frozen k
              have hst := flip8_step hfl (by rw [← HYn.out]; omega)
              rw [← hkm] at hst
              obtain ⟨x, hx⟩ : ∃ x, x = el Z k := ⟨_, rfl⟩
              rw [← hx] at h01 hcx hst
              have hx0 : 0 ≤ x := by omega
              have hx1 : x ≤ 1 := by omega
              have HS := Lib.hid hst
              have HP : Hid (RowOf (wr.setCell ⟨b, k, none⟩ (.int .i64 (1 - x))) b cap (Z.set k (1 - x))) := hrow.put
              have HB := Lib.hid (hbel.setCell (p := ⟨b, k, none⟩) hI4 (.int .i64 (1 - x)))
              have HK := Lib.hid (show k + 1 = A + (m + 1) ∧ m + 1 ≤ N from ⟨by omega, by omega⟩)
              clear hfl hrow hbel h01 hst hx hkm hZl
              go_wp2
              go_roundw
              case rel => exact ⟨k + 1, m + 1, _, HK.out, by go_num, HS.out, HP.out, HB.out⟩
              case measure => simp [intOf]; omega
            · obtain rfl : m = N := by omega
              obtain ⟨L, e1, e2, e3, e4⟩ := HEnd.out A Z hA6 hfl
              have h6 := deinterleave_any (some ⟨b, 0, none⟩) cv5 Z (m : Int) wr hrow.ints
              rw [hZl, e1] at h6
              have H6 := Lib.hid h6
              have E3 := Lib.hid e3
              have E4 := Lib.hid e4
              have B6 := Lib.hid (Below.next B4.out (Nat.le_refl _) hbel)
              have I6 := Lib.hid (HI4.out.next hbel)
              have z4 : ((m : Int) == (m : Int)) = true := by simp
              have z5 : decide (xs = xs) = true := by simp
              clear h6 e1 e2 e3 e4 hfl hrow hbel hkm HEnd HRo HBe
              go_wp2_with fail
              with_reducible refine H6.out.mono ?_
              rintro e w6 ⟨v6, cv6, rfl, r6, o6, b6⟩
              have B7 := Lib.hid (Below.next B6.out (Nat.le_refl _) b6)
              have I7 := Lib.hid (I6.out.next b6)
              have h8 := decodeBlocks_any v6 cv6 L w6 (own_of_list o6).ints r6.1 (HT.out.next B7.out) (HC.out.next B7.out)
              unfold DecBPost at h8
              rw [E3.out, E4.out] at h8
              have H8 := Lib.hid h8
              clear h8 o6 b6 r6 H6
              go_wp2_with fail
              with_reducible refine H8.out.mono ?_
              rintro e w8 ⟨v8, cv8, rfl, _, o8, b8⟩
              have V8 := Lib.hid (own_of_list o8).ints
              have I8 := Lib.hid (I7.out.next b8)
              have B8 := Lib.hid (Below.next B7.out (Nat.le_refl _) b8)
              clear o8 b8 H8
              go_wp2_with fail
              refine (sameInts_any v8 a1 cv8 c1 w8.heap.size w8.heap.size xs xs w8 V8.out I8.out (by omega)).mono ?_
              rintro e w9 ⟨rfl, n9, rfl⟩
              go_wp2
              go_ret
              exact ⟨rfl, below_drewN B8.out n9⟩
        · go_wp2_with fail
          refine (alive_any w4).mono ?_
          rintro e w8 ⟨rfl, b8⟩
          have B8 := Lib.hid (Below.next B4.out (Nat.le_refl _) b8)
          clear b8
          go_wp2
          go_ret
          exact ⟨rfl, B8.out⟩
      · go_wp2_with fail
        refine (alive_any w4).mono ?_
        rintro e w8 ⟨rfl, b8⟩
        have B8 := Lib.hid (Below.next B4.out (Nat.le_refl _) b8)
        clear b8
        go_wp2
        go_ret
        exact ⟨rfl, B8.out⟩
    · go_enter Tryd.func3, Tryd.ntmps3
      go_wp2
      go_ret
      exact ⟨rfl, Below.refl _ _⟩
  · go_enter Tryd.func3, Tryd.ntmps3
    go_wp2
    go_ret
    exact ⟨rfl, Below.refl _ _⟩
end Go.Proofs.YtmhngakfjlkchaaDoor
