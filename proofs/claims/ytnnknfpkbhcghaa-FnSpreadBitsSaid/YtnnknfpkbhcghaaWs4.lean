/-
  What DespreadSums and DespreadBits answer, for all arguments. Condition: the list can be read and has room for its numbers.
-/
import Derived.Test.YtnnknfpkbhcghaaWs3
namespace Go.Proofs.Ytnnknfpkbhcghaa
open Go.RowKit

theorem decideBit_is (n : Int) (w : World) : Calls Try.prog 49 #[.int .i64 n] w fun e w' => e = .returned (.int .i64 (dbit n)) ∧ w = w' := by
  by_cases h : 0 < n
  · have hd : dbit n = 1 := if_pos h
    rw [hd]
    clear hd
    go_enter Try.func49, Try.ntmps49
    go_wp2
    go_ret
    exact ⟨rfl, rfl⟩
  · have hd : dbit n = 0 := if_neg h
    rw [hd]
    clear hd
    go_enter Try.func49, Try.ntmps49
    go_wp2
    go_ret
    exact ⟨rfl, rfl⟩
theorem ints_cut8 {k : IntKind} {w : World} {B b off i : Nat} {xs : List Int} (hx : Ints k w B (some ⟨b, off, none⟩) xs) (hi : 8 * i + 8 ≤ xs.length) : Ints k w B (some ⟨b, off + 8 * i, none⟩) (cut8 xs i) := fun _ => by
  obtain ⟨b', off', e, hb, hc⟩ := hx (by intro e; rw [e] at hi; simp at hi)
  injection e with e
  injection e with e1 e2
  subst e1 e2
  refine ⟨b, off + 8 * i, rfl, hb, fun j hj => ?_⟩
  rw [cut8_length hi] at hj
  rw [cut8_el hj, Nat.add_assoc, hc (8 * i + j) (by omega)]
/-- What DespreadSums leaves: nothing, or a row. -/
def DsW (xs : List Int) (w : World) (e : Ending) (w' : World) : Prop :=
  ∃ a n, e = .returned (.slice a n n) ∧ n = xs.length ∧ n ≤ 32 ∧ (n = 0 ∨ ∃ b, a = some ⟨b, 0, none⟩ ∧ w.heap.size ≤ b ∧ RowX w' b xs) ∧ Below w.heap.size w w'
theorem DsW.post {xs : List Int} {w w' : World} {e : Ending} (h : DsW xs w e w') : ListPostC xs w e w' := by
  obtain ⟨a, n, rfl, hn, hl, h0, hb⟩ := h
  rcases h0 with h0 | ⟨b, rfl, h1, h2⟩
  · have : xs = [] := List.eq_nil_of_length_eq_zero (by omega)
    subst this
    rw [h0]
    exact ⟨a, 0, rfl, ⟨Nat.le_refl _, Nat.zero_le _⟩, fun h => absurd rfl h, hb⟩
  · exact rowX_post h2 (by unfold maxLen; omega) h1 hb hn
theorem dsW_nil {w w' : World} (hb : Below w.heap.size w w') : DsW [] w (.returned (.slice none 0 0)) w' := ⟨_, _, rfl, rfl, Nat.zero_le _, .inl rfl, hb⟩
set_option maxHeartbeats 4000000 in
theorem despreadSums_new (a : Option Addr) (c : Nat) (xs : List Int) (k : Int) (w : World) (hx : Ints .i64 w w.heap.size a xs) (hc : xs.length ≤ c) :
    Calls Try.prog 24 #[.slice a xs.length c, .int .i64 k] w (DsW (dsOr xs k) w) := by
  have HX := Lib.hid hx
  clear hx
  cases hk : kOk k
  · have H1 := Lib.hid (codeNumberValid_is k false w hk)
    have HE := Lib.hid (dsOr_no (xs := xs) (k := k) fun h => kOk_no hk ⟨h.2.2.1, h.2.2.2.1⟩)
    clear hk hc
    go_enter Try.func24, Try.ntmps24
    go_wp2_with (go_at_call 38; ((with_reducible refine H1.out.mono ?_); rintro e w' ⟨rfl, rfl⟩))
    go_ret
    rw [HE.out]
    exact dsW_nil (Below.refl _ _)
  · have H1 := Lib.hid (codeNumberValid_is k true w hk)
    obtain ⟨r, hr⟩ : ∃ r, r = xs.length % 8 := ⟨_, rfl⟩
    have et : (xs.length : Int).tmod 8 = (r : Int) := by rw [Int.tmod_eq_emod_of_nonneg (by omega), hr]; rfl
    by_cases hr0 : r = 0
    · have z : ((r : Int) != 0) = false := by rw [bne_eq_false_iff_eq]; omega
      cases h1 : chW 8000 xs
      · have H2 := Lib.hid (chipsValid_is a c _ xs 8000 false w HX.out (by omega) h1)
        have HE := Lib.hid (dsOr_no (xs := xs) (k := k) fun h => by simp [chW, h.2.1, h.2.2.2.2] at h1)
        clear hk hc hr hr0 h1
        go_enter Try.func24, Try.ntmps24
        go_wp2_with (first
          | (go_at_call 38; ((with_reducible refine H1.out.mono ?_); rintro e w' ⟨rfl, rfl⟩))
          | (go_at_call 48; ((with_reducible refine H2.out.mono ?_); rintro e w' ⟨rfl, rfl⟩)))
        go_ret
        rw [HE.out]
        exact dsW_nil (Below.refl _ _)
      · have H2 := Lib.hid (chipsValid_is a c _ xs 8000 true w HX.out (by omega) h1)
        obtain ⟨K, hK, rfl⟩ := kOk_nat hk
        obtain ⟨p1, p2⟩ := chW_parts h1
        obtain ⟨N, hN⟩ : ∃ N, N = xs.length / 8 := ⟨_, rfl⟩
        have hN8 : xs.length = 8 * N := by omega
        obtain ⟨F, hF⟩ : ∃ F : Nat → Int, F = dsS xs K := ⟨_, rfl⟩
        have HE := Lib.hid (show dsOr xs (K : Int) = mkX F N N by
          rw [dsOr_yes ⟨by omega, p1, by omega, by omega, p2⟩, mkX_done, hN, hF]; rfl)
        have HSum := Lib.hid (fun (i : Nat) (hi : i < N) => show el (wsN (cut8 xs i) 3) K = F i by rw [hF]; exact cut8_sum (by omega) hK)
        have HCl := Lib.hid (fun (i : Nat) (hi : i < N) => cut8_length (xs := xs) (i := i) (by omega))
        have HW := Lib.hid (fun (i : Nat) (hi : i < N) W => walshSums_any (cut8 xs i) W (cut8_length (by omega)) (cut8_in (by omega) p2))
        have HIx := Lib.hid (fun (i : Nat) (hi : i < N) W => indexE8 (wsN (cut8 xs i) 3) K W ((wsN_length _ _).trans (cut8_length (by omega))) hK)
        have hN32 : N ≤ 32 := by omega
        have e2 : (xs.length : Int) / 8 = (N : Int) := by omega
        have e2' : wrap64 ((xs.length : Int) / 8) = (N : Int) := by rw [e2]; exact wrapW' (by omega)
        have hmk := makeX N (by omega)
        have R0 := Lib.hid (rowX_made w F N)
        have B0 := Lib.hid (alloc_belowX w (.cells (madeCells #[.int .i64 0] N) 3))
        have HNn := Lib.hid hN8
        have HCc := Lib.hid hc
        clear hk h1 hK p1 p2 hN hF hr hr0 hN8 hc
        go_enter Try.func24, Try.ntmps24
        go_wp2_with (first
          | (go_at_call 38; ((with_reducible refine H1.out.mono ?_); rintro e w' ⟨rfl, rfl⟩))
          | (go_at_call 48; ((with_reducible refine H2.out.mono ?_); rintro e w' ⟨rfl, rfl⟩)))
        clear hmk e2 e2' et z
        go_loopw [28] (fun i wr => ∃ j : Nat, j ≤ N ∧ i = .int .i64 j ∧ RowX wr w.heap.size (mkX F N j) ∧ Below w.heap.size w wr) (fun i _ => N - (intOf i).toNat)
        case atStart => exact ⟨0, Nat.zero_le _, rfl, R0.out, B0.out⟩
        case round =>
          obtain ⟨j, hj, rfl, hrow, hbel⟩ := hrel
          have HR := Lib.hid hrow
          have HB := Lib.hid hbel
          have hj2 : j ≤ 32 := Nat.le_trans hj hN32
          clear hrow hbel R0 B0
          by_cases hlt : j < N
          · have hfit : 8 * j + 8 ≤ xs.length := by have := HNn.out; omega
            have hxw := HX.out.below HB.out
            obtain ⟨b, off, rfl, hb, _⟩ := hxw.at_ (i := 8 * j) (by omega)
            have HC8 := Lib.hid (ints_cut8 hxw hfit)
            have HCl2 := Lib.hid (HCl.out j hlt)
            have HW2 := Lib.hid (HW.out j hlt wr)
            have hix := fun W => HIx.out j hlt W
            rw [HSum.out j hlt] at hix
            obtain ⟨P, hP⟩ : ∃ P, P = 8 * j := ⟨_, rfl⟩
            rw [← hP] at HC8
            have q1 : (j : Int) * 8 = (P : Int) := by omega
            have hPc : (P : Int) + 8 ≤ (c : Int) := by have := HCc.out; omega
            have hP256 : P ≤ 256 := by omega
            have hPn : P + 8 - P = 8 := by omega
            have HS := Lib.hid (fun (W : World) (hW : Below wr.heap.size wr W) => (HR.out.next hW).set (k := j) (by rw [mkX_length]; exact hlt) (F j))
            rw [mkX_set F hlt] at HS
            have HRw := Lib.hid (fun (W : World) (hW : Below wr.heap.size wr W) => And.intro ((HR.out.next hW).cell (k := j) (by rw [mkX_length]; exact hlt)) ((HR.out.next hW).frozen j))
            generalize wsN (cut8 xs j) 3 = zs at *
            generalize F j = v at *
            generalize cut8 xs j = ys at *
            clear hP hfit hxw hb
            go_wp2_with (first
              | (refine wpList_arrayPtrE8 (.tmp 39) (some ⟨b, off + P, none⟩) (P + 8 - P) (c - P) hPn rfl rfl rfl ?_)
              | (refine loadE8_ints (.tmp 40) (some ⟨b, off + P, none⟩) w.heap.size ys HC8.out HCl2.out rfl rfl rfl ?_)
              | (go_at_call 50; (with_reducible refine HW2.out.mono ?_); rintro e w2 ⟨rfl, b2⟩; obtain ⟨c0, f0⟩ := HRw.out w2 b2; have HS2 := Lib.hid (HS.out w2 b2); have HB2 := Lib.hid ((Below.next HB.out (Nat.le_refl _) b2).setCell (p := ⟨w.heap.size, j, none⟩) (Nat.le_refl _) (.int .i64 v)); clear b2))
            go_roundw
            case rel => exact ⟨j + 1, by omega, by go_num, HS2.out, HB2.out⟩
            case measure => simp [intOf]; omega
          · obtain rfl : N = j := by omega
            go_wp2
            go_ret
            rw [HE.out]
            exact ⟨_, _, rfl, (mkX_length _ _ _).symm, hN32, .inr ⟨_, rfl, Nat.le_refl _, HR.out⟩, HB.out⟩
    · have z : ((r : Int) != 0) = true := by rw [bne_iff_ne]; omega
      have HE := Lib.hid (dsOr_no (xs := xs) (k := k) fun h => hr0 (by rw [hr]; exact h.1))
      clear hk hc hr hr0
      go_enter Try.func24, Try.ntmps24
      go_wp2_with (go_at_call 38; ((with_reducible refine H1.out.mono ?_); rintro e w' ⟨rfl, rfl⟩))
      go_ret
      rw [HE.out]
      exact dsW_nil (Below.refl _ _)
theorem despreadSums_any (a : Option Addr) (c : Nat) (xs : List Int) (k : Int) (w : World) (hx : Ints .i64 w w.heap.size a xs) (hc : xs.length ≤ c) :
    Calls Try.prog 24 #[.slice a xs.length c, .int .i64 k] w (ListPostC (dsOr xs k) w) :=
  (despreadSums_new a c xs k w hx hc).mono fun _ _ h => h.post
set_option maxHeartbeats 2000000 in
theorem despreadBits_any (a : Option Addr) (c : Nat) (xs : List Int) (k : Int) (w : World) (hx : Ints .i64 w w.heap.size a xs) (hc : xs.length ≤ c) :
    Calls Try.prog 23 #[.slice a xs.length c, .int .i64 k] w (ListPostC (dbOr xs k) w) := by
  have H1 := Lib.hid (despreadSums_new a c xs k w hx hc)
  have HE := Lib.hid (show dbOr xs k = (dsOr xs k).map dbit from rfl)
  generalize dsOr xs k = S at *
  clear hx hc
  go_enter Try.func23, Try.ntmps23
  go_wp2_with (go_at_call 24; (with_reducible refine H1.out.mono ?_); rintro e w2 ⟨a2, n, rfl, hn, hn32, h0, b2⟩; have HN := Lib.hid hn; have H0 := Lib.hid h0; have B2 := Lib.hid b2; clear hn h0 b2)
  go_loopw [13] (fun i wr => ∃ j : Nat, j ≤ n ∧ i = .int .i64 j ∧ (n = 0 ∨ ∃ b, a2 = some ⟨b, 0, none⟩ ∧ w.heap.size ≤ b ∧ RowX wr b (tnX dbit S j)) ∧ Below w.heap.size w wr) (fun i _ => n - (intOf i).toNat)
  case atStart => exact ⟨0, Nat.zero_le _, rfl, by rw [tnX_start]; exact H0.out, B2.out⟩
  case round =>
    obtain ⟨j, hj, rfl, hrow, hbel⟩ := hrel
    have HB := Lib.hid hbel
    have hj2 : j ≤ 32 := Nat.le_trans hj hn32
    clear hbel
    by_cases hlt : j < n
    · obtain ⟨b, rfl, hbb, hr⟩ := hrow.resolve_left (by omega)
      have hjS : j < S.length := by have := HN.out; omega
      have c0 := hr.cell (k := j) (by rw [tnX_length]; exact hjS)
      rw [tnX_at _ hjS] at c0
      have f0 := hr.frozen j
      have hs := hr.set (k := j) (by rw [tnX_length]; exact hjS) (dbit (el S j))
      rw [tnX_set _ hjS] at hs
      have HS := Lib.hid hs
      have HD := Lib.hid (fun W => decideBit_is (el S j) W)
      generalize el S j = x at *
      have HB2 := Lib.hid (HB.out.setCell (p := ⟨b, j, none⟩) hbb (.int .i64 (dbit x)))
      have HBb := Lib.hid hbb
      clear hr hs hrow H0 hjS hbb
      go_wp2_with (go_at_call 49; (with_reducible refine (HD.out _).mono ?_); rintro e w' ⟨rfl, rfl⟩)
      go_roundw
      case rel => exact ⟨j + 1, by omega, by go_num, .inr ⟨b, rfl, HBb.out, HS.out⟩, HB2.out⟩
      case measure => simp [intOf]; omega
    · obtain rfl : n = j := by omega
      have HP := Lib.hid (show ListPostC (dbOr xs k) w (.returned (.slice a2 n n)) wr from by
        have hnS := HN.out
        have hd : tnX dbit S n = S.map dbit := by rw [hnS, tnX_done]
        rw [HE.out]
        rcases hrow with h | ⟨b, rfl, h1, h2⟩
        · have : S = [] := List.eq_nil_of_length_eq_zero (by omega)
          rw [this, h]
          exact ⟨a2, 0, rfl, ⟨Nat.le_refl _, Nat.zero_le _⟩, fun h => absurd rfl h, HB.out⟩
        · rw [hd] at h2
          exact rowX_post h2 (by rw [List.length_map]; unfold maxLen; omega) h1 HB.out (by rw [List.length_map]; exact hnS))
      clear hrow H0
      go_wp2
      go_ret
      exact HP.out
end Go.Proofs.Ytnnknfpkbhcghaa
