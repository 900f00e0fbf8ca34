/-
  What the transform with a root, the transforms of arrays in both directions and the product of two arrays answer. Conditions: sixteen numbers 0 to 256; a root 0 to 256.
-/
import Derived.Test.YtkigjnjbjbnidaaTr3
namespace Go.Proofs.Ytkigjnjbjbnidaa
open Go.RowKit

/-- The transform's own array, beside the block of its result. -/
def FfW (w wr : World) (g : Nat) (ys : List Int) : Prop := A16 wr g ys ∧ A16 wr (w.heap.size + 1) z16 ∧ w.heap.size + 1 < g ∧ Below w.heap.size w wr
theorem FfW.next {w wr w' : World} {g : Nat} {ys zs : List Int} (h : FfW w wr g ys) (hb : Below g wr w') (hz : A16 w' g zs) : FfW w w' g zs :=
  ⟨hz, ⟨(hb.block _ h.2.2.1).trans h.2.1.1, h.2.1.2⟩, h.2.2.1, h.2.2.2.trans (hb.mono (by have := h.2.2.1; omega))⟩
theorem FfW.new {w w1 W : World} {ys : List Int} (hz : A16 w1 (w.heap.size + 1) z16) (hb : Below w.heap.size w w1) (hy : ys.length = 16)
    (hW : Hid (W = (w1.alloc (.cells (rw16 z16) 40)).setRow w1.heap.size (rw16 ys))) : FfW w W w1.heap.size ys := by
  have h1 := A16.new w1 z16_len
  have h2 := put16 h1 hW hy
  have h3 : Below w1.heap.size w1 W := below_put (alloc_belowT w1 _) hW (Nat.le_refl _)
  exact ⟨h2, hz.next h3, hz.lt, Below.next hb (Nat.le_refl _) h3⟩
/-- The numbers of one size. -/
theorem sz_nums {n : Nat} (h : n < 4) : ∃ Z H E : Nat, Z = 2 ^ (n + 1) ∧ H = 2 ^ n ∧ E = 8 / 2 ^ n ∧ Z = 2 * H ∧ E * Z = 16 ∧ (1 ≤ H ∧ H ≤ 8) ∧ (1 ≤ E ∧ E ≤ 8) ∧ (16 : Int).tdiv (Z : Int) = (E : Int) ∧ (Z : Int) / 2 = (H : Int) := by
  have : n = 0 ∨ n = 1 ∨ n = 2 ∨ n = 3 := by omega
  rcases this with rfl | rfl | rfl | rfl <;> exact ⟨_, _, _, rfl, rfl, rfl, by decide, by decide, by decide, by decide, by decide, by decide⟩
/-- The list behind n sizes; behind m blocks of one size. -/
def SzAt (xs : List Int) (r : Int) (n : Nat) (ys : List Int) : Prop := ys = szS (rvX xs 16) r n
def BlAt (ys : List Int) (h : Nat) (t : Int) (m : Nat) (zs : List Int) : Prop := zs = blS ys h t m
theorem SzAt.start (xs : List Int) (r : Int) : SzAt xs r 0 (rvX xs 16) := rfl
theorem SzAt.in_ {xs ys : List Int} {r : Int} {n : Nat} (h : SzAt xs r n ys) (hin : RIn xs) : RIn ys := by rw [show ys = _ from h]; exact szS_in (rvX_in hin 16) r n
theorem SzAt.done {xs ys : List Int} {r : Int} (h : SzAt xs r 4 ys) : rw16 (fftL r xs) = rw16 ys := by rw [show ys = _ from h]; rfl
theorem SzAt.step {xs ys zs : List Int} {r T : Int} {n H E : Nat} (h : SzAt xs r n ys) (hH : H = 2 ^ n) (hE : E = 8 / 2 ^ n) (hT : T = pwF r E) (hz : BlAt ys H T E zs) : SzAt xs r (n + 1) zs := by
  unfold SzAt at *
  unfold BlAt at hz
  rw [hz, hT, hE, hH, h]; rfl
theorem BlAt.start (ys : List Int) (h : Nat) (t : Int) : BlAt ys h t 0 ys := rfl
theorem BlAt.in_ {ys zs : List Int} {h : Nat} {t : Int} {m : Nat} (hz : BlAt ys h t m zs) (hy : RIn ys) : RIn zs := by rw [show zs = _ from hz]; exact blS_in hy h t m
theorem BlAt.step {ys zs : List Int} {h : Nat} {t : Int} {m S : Nat} (hz : BlAt ys h t m zs) (hS : S = m * (2 * h)) : BlAt ys h t (m + 1) (bfS zs S h t h) := by
  unfold BlAt at *
  rw [hz, hS]; rfl
theorem bl_nums {m E H Z : Nat} (hez : E * Z = 16) (hz : Z = 2 * H) (hH : 1 ≤ H) (hm : m ≤ E) : ∃ S : Nat, S = m * (2 * H) ∧ S ≤ 16 ∧ (m < E → S + 2 * H ≤ 16 ∧ S < 16 ∧ S + Z = (m + 1) * (2 * H)) ∧ (¬ m < E → S = 16) := by
  subst hz
  refine ⟨_, rfl, ?_, fun h => ?_, fun h => ?_⟩
  · rw [← hez]; exact Nat.mul_le_mul_right _ hm
  · have h1 : (m + 1) * (2 * H) ≤ 16 := by rw [← hez]; exact Nat.mul_le_mul_right _ h
    rw [Nat.succ_mul] at h1
    exact ⟨h1, by omega, (Nat.succ_mul m (2 * H)).symm⟩
  · obtain rfl : m = E := by omega
    exact hez
set_option maxHeartbeats 4000000 in
theorem transform_any (xs : List Int) (r : Int) (w : World) (hl : xs.length = 16) (hin : RIn xs) (hr : 0 ≤ r ∧ r < 257) :
    Calls Try.prog 43 #[.agg (rw16 xs), .int .i64 r] w fun e w' => e = .returned (.agg (rw16 (fftL r xs))) ∧ Below w.heap.size w w' := by
  have HB := Lib.hid (fun o o' => (alloc_belowT w o).trans ((alloc_belowT (w.alloc o) o').mono (by simp)))
  have HN2 : Hid (A16 ((w.alloc (.cells (rw16 xs) 40)).alloc (.cells (rw16 z16) 40)) w.heap.size xs ∧ A16 ((w.alloc (.cells (rw16 xs) 40)).alloc (.cells (rw16 z16) 40)) (w.heap.size + 1) z16) := ⟨⟨heap_prev2 _ _ _, hl⟩, ⟨heap_last2 _ _ _, z16_len⟩⟩
  have HV := Lib.hid (fun W => reversed_any xs W hl)
  have HIn := Lib.hid hin
  have HR := Lib.hid hr
  clear hl hin hr
  rw [← z16_row] at HN2
  go_enter Try.func43, Try.ntmps43
  go_wp2_with (first | (refine load16 (.tmp 2) w.heap.size xs HN2.out.1 rfl rfl rfl ?_) | (go_at_call 50; refine (HV.out _).mono ?_; rintro e w1 ⟨rfl, hb1⟩; have B1 := Lib.hid hb1; clear hb1) | (refine store16 (.tmp 5) (.tmp 10) w1.heap.size z16 (rvX xs 16) (A16.new w1 z16_len) (rvX_len _ _) rfl rfl rfl rfl ?_; intro W1 hW1; have F1 := Lib.hid (FfW.new (HN2.out.2.next B1.out) (Below.next (HB.out _ _) (by simp) B1.out) (rvX_len _ _) hW1); clear hW1))
  obtain ⟨G, hG⟩ : ∃ G, G = w1.heap.size := ⟨_, rfl⟩
  rw [← hG] at F1 ⊢
  clear hG B1
  have S0 := Lib.hid (SzAt.start xs r)
  generalize rvX xs 16 = y0 at *
  go_loopw [6] (fun z wr => ∃ (n : Nat) (ys : List Int), n ≤ 4 ∧ z = .int .i64 ((2 ^ (n + 1) : Nat) : Int) ∧ SzAt xs r n ys ∧ FfW w wr G ys) (fun z _ => 33 - (intOf z).toNat)
  case atStart => exact ⟨0, _, by omega, rfl, S0.out, F1.out⟩
  case round =>
    obtain ⟨n, ys, hn, rfl, hsz, hrel⟩ := hrel
    have H0 := Lib.hid hrel
    have HS := Lib.hid hsz
    clear hrel hsz
    by_cases hlt : n < 4
    · obtain ⟨Z, H, E, hZ, hH, hE, hz2, hez, hHb, hEb, d1, d2⟩ := sz_nums hlt
      rw [← hZ]
      have HT := Lib.hid (fun W => residuePower_any r E W HR.out (by omega))
      have HTi := Lib.hid (pwF_in r E)
      have HY := Lib.hid (HS.out.in_ HIn.out)
      have HZ := Lib.hid (show 2 ^ (n + 1 + 1) = 2 * Z by rw [hZ, Nat.pow_succ 2 (n + 1)]; omega)
      obtain ⟨T, hT⟩ : ∃ T, T = pwF r E := ⟨_, rfl⟩
      rw [← hT] at HT HTi
      have HNext := Lib.hid (fun zs hz => HS.out.step (zs := zs) hH hE hT hz)
      have d1' : IntKind.i64.wrap ((16 : Int).tdiv (Z : Int)) = (E : Int) := by rw [d1]; exact wrapT (by omega)
      have d1'' : wrap64 ((16 : Int) / (Z : Int)) = (E : Int) := by rw [← Int.tdiv_eq_ediv_of_nonneg (by decide), d1]; exact wrapT' (by omega)
      have d1q : (16 : Int) / (Z : Int) = (E : Int) := by rw [← Int.tdiv_eq_ediv_of_nonneg (by decide), d1]
      have hZ16 : (Z : Int) ≤ 16 := by omega
      have hZ0 : ((Z : Int) == 0) = false := by rw [beq_eq_false_iff_ne]; omega
      have HE := Lib.hid hez
      have HZ2 := Lib.hid hz2
      clear hZ hH hE hT hez hz2
      go_wp2_with (go_at_call 25; (with_reducible refine (HT.out _).mono ?_); rintro e w2 ⟨rfl, rfl⟩)
      clear d1 d1' d1'' d1q
      have HQ := Lib.hid (And.intro d2 (show wrap64 ((Z : Int) / 2) = (H : Int) by rw [d2]; exact wrapT' (by omega)))
      have HHb := Lib.hid hHb
      clear d2 hHb hEb hZ0
      go_loopw [8] (fun p wr => ∃ (m : Nat) (zs : List Int), m ≤ E ∧ p = .int .i64 ((m * (2 * H) : Nat) : Int) ∧ BlAt ys H T m zs ∧ FfW w wr G zs) (fun p _ => 17 - (intOf p).toNat)
      case atStart => exact ⟨0, ys, Nat.zero_le _, by rw [Nat.zero_mul]; rfl, BlAt.start _ _ _, H0.out⟩
      case round =>
        obtain ⟨m, zs, hm, rfl, hbl, hrel⟩ := hrel
        have H1 := Lib.hid hrel
        have HBl := Lib.hid hbl
        clear hrel hbl
        obtain ⟨S, hS, hS16, hyes, hno⟩ := bl_nums HE.out HZ2.out HHb.out.1 hm
        rw [← hS]
        by_cases hlm : m < E
        · obtain ⟨g1, g2, g3⟩ := hyes hlm
          have hSi : (S : Int) < 16 := by omega
          have hSZ : (S : Int) + (Z : Int) ≤ 16 := by have := HZ2.out; omega
          obtain ⟨d2, d2'⟩ := HQ.out
          have HBf := Lib.hid (butterflies_any G S H T zs _ H1.out.1 (HBl.out.in_ HY.out) HTi.out g1)
          have HBn := Lib.hid (HBl.out.step hS)
          have HSn := Lib.hid (show ((S : Int) + (Z : Int)) = ((S + Z : Nat) : Int) by omega)
          have HG3 := Lib.hid g3
          have HlM := Lib.hid hlm
          have HZp := Lib.hid (show 1 ≤ Z by have := HZ2.out; have := HHb.out; omega)
          clear hyes hno hS g1 g3 hlm hm
          go_wp2_with (go_at_call 51; (with_reducible refine HBf.out.mono ?_); rintro e w3 ⟨rfl, hz3, hb3⟩; have H3 := Lib.hid (H1.out.next hb3 hz3); clear hz3 hb3)
          go_roundw
          case rel => exact ⟨m + 1, _, HlM.out, by rw [← HG3.out, ← HSn.out], HBn.out, H3.out⟩
          case measure => have := HZp.out; simp [intOf]; omega
        · have hS' : S = 16 := hno hlm
          have hSi : ¬ (S : Int) < 16 := by omega
          obtain rfl : m = E := by omega
          clear hyes hno hS hlm
          go_wp2
          go_roundw
          case rel => exact ⟨n + 1, zs, by omega, by rw [HZ.out]; go_num, HNext.out zs HBl.out, H1.out⟩
          case measure => have := HZ2.out; have := HHb.out; simp [intOf]; omega
    · obtain rfl : n = 4 := by omega
      have HD := Lib.hid HS.out.done
      go_wp2_with (first | (refine load16 (.tmp 5) G ys H0.out.1 rfl rfl rfl ?_) | (refine store16 (.tmp 4) (.tmp 29) (w.heap.size + 1) z16 ys H0.out.2.1 H0.out.1.2 rfl rfl rfl rfl ?_; intro W1 hW1; have P1 := Lib.hid (put16 H0.out.2.1 hW1 H0.out.1.2); have B1 := Lib.hid (below_put H0.out.2.2.2 hW1 (by omega)); clear hW1))
      refine bodyPost_ret (results16 rfl _ _ (w.heap.size + 1) _ rfl P1.out) rfl ?_
      exact ⟨by rw [HD.out], B1.out⟩
end Go.Proofs.Ytkigjnjbjbnidaa
