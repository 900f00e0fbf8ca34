/-
  The laws of DespreadSums and DespreadBits, walked: they return true for every code, and write into nothing that was there. No condition.
-/
import Derived.Test.YtnnknfpkbhcghaaWsDraw2
import Derived.Test.YtnnknfpkbhcghaaWsLaw1
namespace Go.Proofs.Ytnnknfpkbhcghaa
open Go.RowKit

theorem dsOr_pos {xs : List Int} {k : Int} (h : (dsOr xs k).length ≠ 0) : dsOk xs k := by
  unfold dsOr at h
  split at h
  · assumption
  · exact absurd rfl h
theorem sq_in {s M : Int} (h : -M ≤ s ∧ s ≤ M) (_hM : 0 ≤ M) : 0 ≤ s * s ∧ s * s ≤ M * M := by
  have h1 := Int.mul_nonneg (show 0 ≤ M - s by omega) (show 0 ≤ M + s by omega)
  have e : (M - s) * (M + s) = M * M - s * s := by
    rw [Int.sub_mul, Int.mul_add, Int.mul_add, Int.mul_comm s M]; omega
  refine ⟨?_, by omega⟩
  by_cases h0 : 0 ≤ s
  · exact Int.mul_nonneg h0 h0
  · have := Int.mul_nonneg (show 0 ≤ -s by omega) (show 0 ≤ -s by omega)
    rwa [Int.neg_mul_neg] at this
/-- The squares of the sums of one code. -/
def sqG (xs : List Int) (j i : Nat) : Int := dsS xs j i * dsS xs j i
theorem sqG_in {xs : List Int} (h : chOk 8000 xs = true) (j i : Nat) : 0 ≤ sqG xs j i ∧ sqG xs j i ≤ 4096000000 := sq_in (dsS_in h j i) (by decide)
theorem sqG_sum {xs : List Int} (h : chOk 8000 xs = true) (j : Nat) {q N : Nat} (hq : q ≤ N) (hN : N ≤ 4) : 0 ≤ sqS (sqG xs j) q ∧ sqS (sqG xs j) q ≤ 16384000000 := by
  have h1 := sqS_bound (f := sqG xs j) (M := 4096000000) (n := q) fun i _ => by have := sqG_in h j i; omega
  have h2 : ∀ n, 0 ≤ sqS (sqG xs j) n := fun n => by
    induction n with
    | zero => exact Int.le_refl _
    | succ n ih => have := sqG_in h j n; show 0 ≤ sqS (sqG xs j) n + sqG xs j n; omega
  have := h2 q
  omega
theorem sqG_all {xs : List Int} (h : chOk 8000 xs = true) {N : Nat} (hN : N ≤ 4) {j : Nat} (hj : j ≤ 8) : 0 ≤ sqS (fun t => sqS (sqG xs t) N) j ∧ sqS (fun t => sqS (sqG xs t) N) j ≤ 131072000000 := by
  have h1 := sqS_bound (f := fun t => sqS (sqG xs t) N) (M := 16384000000) (n := j) fun t _ => by have := sqG_sum h t (Nat.le_refl N) hN; omega
  have h2 : ∀ n, 0 ≤ sqS (fun t => sqS (sqG xs t) N) n := fun n => by
    induction n with
    | zero => exact Int.le_refl _
    | succ n ih => have := sqG_sum h n (Nat.le_refl N) hN; show 0 ≤ sqS (fun t => sqS (sqG xs t) N) n + sqS (sqG xs n) N; omega
  have := h2 j
  omega
def sqE (xs : List Int) (m : Nat) : Int := el xs m * el xs m
theorem sqE_in {xs : List Int} (h : chOk 8000 xs = true) (m : Nat) : 0 ≤ sqE xs m ∧ sqE xs m ≤ 64000000 := sq_in (chOk_in (by decide) h m) (by decide)
theorem sqE_sum {xs : List Int} (h : chOk 8000 xs = true) {q : Nat} (hq : q ≤ 40) : 0 ≤ sqS (sqE xs) q ∧ sqS (sqE xs) q ≤ 2560000000 := by
  have h1 := sqS_bound (f := sqE xs) (M := 64000000) (n := q) fun i _ => by have := sqE_in h i; omega
  have h2 : ∀ n, 0 ≤ sqS (sqE xs) n := fun n => by
    induction n with
    | zero => exact Int.le_refl _
    | succ n ih => have := sqE_in h n; show 0 ≤ sqS (sqE xs) n + sqE xs n; omega
  have := h2 q
  omega
theorem sq_nums {s p N : Int} (hp : p = s * s) (h : 0 ≤ p ∧ p ≤ 4096000000) (hN : 0 ≤ N ∧ N ≤ 200000000000) : IntKind.i64.wrap (s * s) = p ∧ wrap64 (s * s) = p ∧ IntKind.i64.wrap (N + p) = N + p ∧ wrap64 (N + p) = N + p := by
  subst hp
  exact ⟨wrapW (by omega), wrapW' (by omega), wrapW (by omega), wrapW' (by omega)⟩
theorem bits_db {xs : List Int} {k : Int} : bitsOk (dbOr xs k) = true := by
  have h := dsOr_length xs k
  simp only [bitsOk, Bool.and_eq_true, decide_eq_true_eq, List.all_eq_true]
  refine ⟨by rw [dbOr_length]; omega, fun y hy => ?_⟩
  simp only [dbOr, List.mem_map] at hy
  obtain ⟨s, _, rfl⟩ := hy
  unfold dbit
  split <;> rfl
/-- The negated list. -/
def ngL (xs : List Int) (m : Nat) : List Int := (List.range m).map fun i => -el xs i
theorem ngL_length (xs : List Int) (m : Nat) : (ngL xs m).length = m := by simp [ngL]
theorem ngL_el (xs : List Int) (i : Nat) : el (ngL xs xs.length) i = -el xs i := by
  by_cases hi : i < xs.length
  · simp [ngL, el, hi]
  · rw [el_out (by rw [ngL_length]; omega), el_out (by omega)]; rfl
theorem ngL_ok {xs : List Int} {k : Int} (h : dsOk xs k) : dsOk (ngL xs xs.length) k := by
  refine ⟨by rw [ngL_length]; exact h.1, by rw [ngL_length]; exact h.2.1, h.2.2.1, h.2.2.2.1, chOk_good fun i _ => ?_⟩
  rw [ngL_el]
  have := chOk_in (by decide) h.2.2.2.2 i
  omega
set_option maxHeartbeats 4000000 in
theorem walkDespreadSums (a : Option Addr) (c : Nat) (ds : List Int) (w : World) (hx : Ints .u8 w w.heap.size a ds) (hw : ∀ n ∈ ds, (Lit.int .u8 n).wf = true) (hc : ds.length ≤ c) (hcm : c ≤ maxLen) :
    Calls Try.prog 6 #[.slice a ds.length c] w fun e w' => e = .returned (.bool true) ∧ Below w.heap.size w w' := by
  have hb := isByte_of_wf hw
  clear hw
  by_cases hl : ds.length ≤ 1048576
  · go_enter Try.func6, Try.ntmps6
    go_wp2_with fail
    refine (drawDespreadSums_any a c ds w hx hb hc hcm).mono ?_
    rintro e w1 ⟨xs, a1, c1, k, rfl, hk, hin, ⟨lx, i1⟩, b1⟩
    have X1 := Lib.hid i1
    have B1 := Lib.hid b1
    clear hx hb hc hcm i1 b1
    have HIn0 := Lib.hid hin
    have hlx : xs.length ≤ 33 := lx.1
    have HLc := Lib.hid lx.2.1
    clear lx hin
    obtain ⟨Z, hZ⟩ : ∃ Z, Z = dsOr xs k := ⟨_, rfl⟩
    have HZ := Lib.hid hZ
    have hZl : Z.length ≤ 32 := by rw [hZ]; exact dsOr_length xs k
    have z3 : decide (Z = Z) = true := by simp
    clear hZ
    go_wp2_with fail
    refine (despreadSums_any a1 c1 xs k w1 X1.out HLc.out).mono ?_
    rw [← HZ.out]
    rintro e w2 ⟨v2, cv2, rfl, _, o2, b2⟩
    have Y2 := Lib.hid (own_of_list o2).ints
    have X2 := Lib.hid (X1.out.next b2)
    have B2 := Lib.hid (Below.next B1.out (Nat.le_refl _) b2)
    clear o2 b2 X1 B1
    go_wp2_with fail
    refine (specDespreadSums_any a1 c1 xs k w2 X2.out (by unfold maxLen; omega)).mono ?_
    rw [← HZ.out]
    rintro e w3 ⟨v3, cv3, rfl, _, o3, b3⟩
    have U3 := Lib.hid (own_of_list o3).ints
    have Y3 := Lib.hid (Y2.out.next b3)
    have X3 := Lib.hid (X2.out.next b3)
    have B3 := Lib.hid (Below.next B2.out (Nat.le_refl _) b3)
    clear o3 b3 X2 Y2 B2
    go_wp2_with fail
    refine (sameInts_any v2 v3 cv2 cv3 w3.heap.size w3.heap.size Z Z w3 Y3.out U3.out (by omega)).mono ?_
    rintro e w4 ⟨rfl, n4, rfl⟩
    have B4 := Lib.hid (below_drewN B3.out n4)
    have Y4 : Hid (Ints .i64 (w3.drewN n4) (w3.drewN n4).heap.size v2 Z) := Y3.out
    have X4 : Hid (Ints .i64 (w3.drewN n4) (w3.drewN n4).heap.size a1 xs) := X3.out
    clear Y3 X3 B3 U3
    generalize w3.drewN n4 = w4 at *
    by_cases hZ0 : Z.length = 0
    · have z4 : ((Z.length : Int) == 0) = true := by simp [hZ0]
      clear hZ0
      go_wp2_with fail
      refine (alive_any w4).mono ?_
      rintro e w88 ⟨rfl, b88⟩
      have B88 := Lib.hid (Below.next B4.out (Nat.le_refl _) b88)
      clear b88
      go_wp2
      go_ret
      exact ⟨rfl, B88.out⟩
    · have z4 : ((Z.length : Int) == 0) = false := by rw [beq_eq_false_iff_ne]; omega
      have hok := dsOr_pos (by rw [← HZ.out]; exact hZ0)
      obtain ⟨K, hK⟩ : ∃ K : Nat, k = (K : Int) := ⟨k.toNat, by have := hok.2.2.1; omega⟩
      obtain ⟨N, hN⟩ : ∃ N, N = xs.length / 8 := ⟨_, rfl⟩
      have hN8 : xs.length = 8 * N := by have := hok.1; omega
      have hN4 : N ≤ 4 := by omega
      have HZN := Lib.hid (show Z.length = N by rw [HZ.out, hK, dsOr_yes (by rw [← hK]; exact hok), dsL_length, hN])
      have HCh := Lib.hid hok.2.2.2.2
      have HJ := Lib.hid (fun (j : Nat) (hj : j < 8) => show dsOr xs (j : Int) = dsL xs j from dsOr_yes ⟨hok.1, hok.2.1, by omega, by omega, hok.2.2.2.2⟩)
      have HJl := Lib.hid (fun j => show (dsL xs j).length = N by rw [dsL_length, hN])
      have HJe := Lib.hid (fun j i (hi : i < N) => show el (dsL xs j) i = dsS xs j i from dsL_el (by rw [← hN]; exact hi))
      have HSq := Lib.hid (show sqS (fun t => sqS (sqG xs t) N) 8 = 8 * sqS (sqE xs) xs.length by rw [hN8]; exact ds_squares xs N)
      have HN8 := Lib.hid hN8
      obtain ⟨bx, ox, rfl⟩ := ints_addrW X4.out (by have := HZN.out; omega)
      clear hok hK hN hZ0 HZ z3 hN8 hk
      go_wp2
      go_loopw [6, 8] (fun n i wr => ∃ j : Nat, j ≤ 8 ∧ i = .int .i64 j ∧ n = .int .i64 (sqS (fun t => sqS (sqG xs t) N) j) ∧ Below w4.heap.size w4 wr) (fun _ i _ => 8 - (intOf i).toNat)
      case atStart => exact ⟨0, Nat.zero_le _, rfl, rfl, Below.refl _ _⟩
      case round =>
        obtain ⟨j, hj, rfl, rfl, hbel⟩ := hrel
        have HB := Lib.hid hbel
        clear hbel
        have HA := Lib.hid (show ∃ A, A = sqS (fun t => sqS (sqG xs t) N) j from ⟨_, rfl⟩)
        by_cases hlt : j < 8
        · have hD := despreadSums_any (some ⟨bx, ox, none⟩) c1 xs (j : Int) wr (X4.out.next HB.out) HLc.out
          rw [HJ.out j hlt] at hD
          have HD := Lib.hid hD
          clear hD
          go_wp2_with fail
          refine HD.out.mono ?_
          rintro e w6 ⟨v6, cv6, rfl, _, o6, b6⟩
          have V6 := Lib.hid (own_of_list o6).ints
          have B6 := Lib.hid (Below.next HB.out (Nat.le_refl _) b6)
          have HVl := Lib.hid (HJl.out j)
          have HVe := Lib.hid (HJe.out j)
          have HAb := Lib.hid (sqG_all HCh.out hN4 hj)
          have HAn := Lib.hid (show sqS (fun t => sqS (sqG xs t) N) (j + 1) = sqS (fun t => sqS (sqG xs t) N) j + sqS (sqG xs j) N from rfl)
          clear o6 b6
          generalize dsL xs j = V at *
          obtain ⟨A, hA⟩ : ∃ A, A = sqS (fun t => sqS (sqG xs t) N) j := ⟨_, rfl⟩
          rw [← hA] at HAb HAn ⊢
          clear hA HA
          go_wp2
          rename World => V0
          go_loopw [6, 10] (fun n i wr => ∃ q d : Nat, q ≤ N ∧ i = .int .i64 q ∧ n = .int .i64 (A + sqS (sqG xs j) q) ∧ wr = V0.drewN d) (fun _ i _ => N - (intOf i).toNat)
          case atStart => exact ⟨0, 0, Nat.zero_le _, rfl, by rw [show sqS (sqG xs j) 0 = 0 from rfl, Int.add_zero], rfl⟩
          case round =>
            obtain ⟨q, d, hq, rfl, rfl, hwd⟩ := hrel
            have HWd := Lib.hid hwd
            have VW := Lib.hid (show Ints .i64 wr wr.heap.size v6 V by rw [hwd]; exact V6.out)
            clear hwd
            by_cases hlq : q < N
            · have hqV : q < V.length := by rw [HVl.out]; exact hlq
              obtain ⟨bv, ov, rfl, _, k1⟩ := VW.out.at_ hqV
              have k1' := fun n => (show (wr.drewN n).cell? ⟨bv, ov + q, none⟩ = some (.int .i64 (el V q)) from k1)
              rw [HVe.out q hlq] at k1 k1'
              have HS := Lib.hid (show A + sqS (sqG xs j) (q + 1) = A + sqS (sqG xs j) q + sqG xs j q by rw [show sqS (sqG xs j) (q + 1) = sqS (sqG xs j) q + sqG xs j q from rfl, Int.add_assoc])
              have h1 := sqG_sum HCh.out j hq hN4
              have h2 := sqG_in HCh.out j q
              have h3 : sqG xs j q = dsS xs j q * dsS xs j q := rfl
              have h4 := HAb.out
              generalize sqS (sqG xs j) q = S at *
              generalize sqG xs j q = p at *
              generalize dsS xs j q = s at *
              obtain ⟨r1, r1', r2, r2'⟩ := sq_nums (N := A + S) h3 h2 (by omega)
              clear h1 h2 h3 h4
              go_wp2
              go_quiet (fail)
              go_wp2
              go_roundw
              case rel => exact ⟨q + 1, _, by omega, by go_num, by rw [HS.out], by rw [HWd.out, World.drewN_drewN]⟩
              case measure => simp [intOf]; omega
            · obtain rfl : q = N := by omega
              have hnV : ¬ q < V.length := by rw [HVl.out]; omega
              have HBw := Lib.hid (show Below w4.heap.size w4 wr by rw [HWd.out]; exact below_drewN B6.out d)
              have hnV' : (V.length : Int) = (q : Int) := by rw [HVl.out]
              go_wp2
              go_roundw
              case rel => exact ⟨j + 1, by omega, by go_num, by rw [HAn.out], HBw.out⟩
              case measure => simp [intOf]; omega
        · obtain rfl : j = 8 := by omega
          have HSq2 := HSq.out
          have XW := Lib.hid (X4.out.next HB.out)
          have HBw := Lib.hid (B4.out.trans (HB.out.mono B4.out.size))
          generalize sqS (fun t => sqS (sqG xs t) N) 8 = A at *
          have HA2 := Lib.hid HSq2
          clear HSq2 HA
          go_wp2
          rename World => V0
          go_loopw [7, 11] (fun n i wr => ∃ q d : Nat, q ≤ xs.length ∧ i = .int .i64 q ∧ n = .int .i64 (sqS (sqE xs) q) ∧ wr = V0.drewN d) (fun _ i _ => xs.length - (intOf i).toNat)
          case atStart => exact ⟨0, 0, Nat.zero_le _, rfl, rfl, rfl⟩
          case round =>
            obtain ⟨q, d, hq, rfl, rfl, hwd⟩ := hrel
            have HWd := Lib.hid hwd
            have XV := Lib.hid (show Ints .i64 wr wr.heap.size (some ⟨bx, ox, none⟩) xs by rw [hwd]; exact XW.out)
            clear hwd
            by_cases hlq : q < xs.length
            · have k1 := ints_cellW XV.out hlq
              have k1' := fun n => (show (wr.drewN n).cell? ⟨bx, ox + q, none⟩ = some (.int .i64 (el xs q)) from k1)
              have HS := Lib.hid (show sqS (sqE xs) (q + 1) = sqS (sqE xs) q + sqE xs q from rfl)
              have h1 := sqE_sum HCh.out (q := q) (by omega)
              have h2 := sqE_in HCh.out q
              have h3 : sqE xs q = el xs q * el xs q := rfl
              generalize sqS (sqE xs) q = S at *
              generalize sqE xs q = p at *
              generalize el xs q = s at *
              obtain ⟨r1, r1', r2, r2'⟩ := sq_nums (N := S) h3 (by omega) (by omega)
              clear h1 h2 h3
              go_wp2
              go_quiet (fail)
              go_wp2
              go_roundw
              case rel => exact ⟨q + 1, _, by omega, by go_num, by rw [HS.out], by rw [HWd.out, World.drewN_drewN]⟩
              case measure => simp [intOf]; omega
            · obtain rfl : xs.length = q := by omega
              have h1 := sqE_sum HCh.out (q := xs.length) (by omega)
              have HA3 := HA2.out
              generalize sqS (sqE xs) xs.length = S at *
              have HBz := Lib.hid (show Below w.heap.size w wr by rw [HWd.out]; exact below_drewN HBw.out d)
              have e2 : (xs.length : Int) / 8 = (N : Int) := by have := HN8.out; omega
              have e3 : ((Z.length : Int) == (N : Int)) = true := by rw [HZN.out]; simp
              have hb8 : -1000000000000 ≤ 8 * S ∧ 8 * S ≤ 1000000000000 := by omega
              have e4 : ((8 * S : Int) == 8 * S) = true := by simp
              have e2' : wrap64 (N : Int) = (N : Int) := wrapW' (by omega)
              have r1 : IntKind.i64.wrap (8 * S) = 8 * S := wrapW hb8
              have r1' : wrap64 (8 * S) = 8 * S := wrapW' hb8
              subst HA3
              clear h1 hb8
              go_wp2
              go_ret
              exact ⟨by first | rfl | (rw [e2', e3]), HBz.out⟩
  · go_enter Try.func6, Try.ntmps6
    go_wp2
    go_ret
    exact ⟨rfl, Below.refl _ _⟩
set_option maxHeartbeats 4000000 in
theorem walkDespreadBits (a : Option Addr) (c : Nat) (ds : List Int) (w : World) (hx : Ints .u8 w w.heap.size a ds) (hw : ∀ n ∈ ds, (Lit.int .u8 n).wf = true) (hc : ds.length ≤ c) (hcm : c ≤ maxLen) :
    Calls Try.prog 7 #[.slice a ds.length c] w fun e w' => e = .returned (.bool true) ∧ Below w.heap.size w w' := by
  have hb := isByte_of_wf hw
  clear hw
  by_cases hl : ds.length ≤ 1048576
  · go_enter Try.func7, Try.ntmps7
    go_wp2_with fail
    refine (drawDespreadBits_any a c ds w hx hb hc hcm).mono ?_
    rintro e w1 ⟨xs, a1, c1, k, rfl, hk, hin, ⟨lx, i1⟩, b1⟩
    have X1 := Lib.hid i1
    have B1 := Lib.hid b1
    clear hx hb hc hcm i1 b1
    have HIn0 := Lib.hid hin
    have hlx : xs.length ≤ 33 := lx.1
    have HLc := Lib.hid lx.2.1
    clear lx hin
    obtain ⟨Z, hZ⟩ : ∃ Z, Z = dbOr xs k := ⟨_, rfl⟩
    have HZ := Lib.hid hZ
    have hZl : Z.length ≤ 32 := by rw [hZ]; rw [dbOr_length]; exact dsOr_length xs k
    have z3 : decide (Z = Z) = true := by simp
    clear hZ
    go_wp2_with fail
    refine (despreadBits_any a1 c1 xs k w1 X1.out HLc.out).mono ?_
    rw [← HZ.out]
    rintro e w2 ⟨v2, cv2, rfl, _, o2, b2⟩
    have Y2 := Lib.hid (own_of_list o2).ints
    have X2 := Lib.hid (X1.out.next b2)
    have B2 := Lib.hid (Below.next B1.out (Nat.le_refl _) b2)
    clear o2 b2 X1 B1
    go_wp2_with fail
    refine (specDespreadBits_any a1 c1 xs k w2 X2.out (by unfold maxLen; omega)).mono ?_
    rw [← HZ.out]
    rintro e w3 ⟨v3, cv3, rfl, _, o3, b3⟩
    have U3 := Lib.hid (own_of_list o3).ints
    have Y3 := Lib.hid (Y2.out.next b3)
    have X3 := Lib.hid (X2.out.next b3)
    have B3 := Lib.hid (Below.next B2.out (Nat.le_refl _) b3)
    clear o3 b3 X2 Y2 B2
    go_wp2_with fail
    refine (sameInts_any v2 v3 cv2 cv3 w3.heap.size w3.heap.size Z Z w3 Y3.out U3.out (by omega)).mono ?_
    rintro e w4 ⟨rfl, n4, rfl⟩
    have B4 := Lib.hid (below_drewN B3.out n4)
    have Y4 : Hid (Ints .i64 (w3.drewN n4) (w3.drewN n4).heap.size v2 Z) := Y3.out
    have X4 : Hid (Ints .i64 (w3.drewN n4) (w3.drewN n4).heap.size a1 xs) := X3.out
    clear Y3 X3 B3 U3
    generalize w3.drewN n4 = w4 at *
    by_cases hZ0 : Z.length = 0
    · have z4 : ((Z.length : Int) == 0) = true := by simp [hZ0]
      clear hZ0
      go_wp2_with fail
      refine (alive_any w4).mono ?_
      rintro e w88 ⟨rfl, b88⟩
      have B88 := Lib.hid (Below.next B4.out (Nat.le_refl _) b88)
      clear b88
      go_wp2
      go_ret
      exact ⟨rfl, B88.out⟩
    · have z4 : ((Z.length : Int) == 0) = false := by rw [beq_eq_false_iff_ne]; omega
      have hok := dsOr_pos (xs := xs) (k := k) (by rw [← dbOr_length, ← HZ.out]; exact hZ0)
      obtain ⟨K, hK⟩ : ∃ K : Nat, k = (K : Int) := ⟨k.toNat, by have := hok.2.2.1; omega⟩
      obtain ⟨N, hN⟩ : ∃ N, N = xs.length / 8 := ⟨_, rfl⟩
      have hN8 : xs.length = 8 * N := by have := hok.1; omega
      have hN4 : N ≤ 4 := by omega
      have hng := ngL_ok hok
      have HS1 := Lib.hid (show dsOr xs k = dsL xs K by rw [hK]; exact dsOr_yes (by rw [← hK]; exact hok))
      have HS2 := Lib.hid (show dsOr (ngL xs xs.length) k = dsL (ngL xs xs.length) K by rw [hK]; exact dsOr_yes (by rw [← hK]; exact hng))
      have HSl := Lib.hid (show (dsL xs K).length = N by rw [dsL_length, hN])
      have HNl := Lib.hid (show (dbOr (ngL xs xs.length) k).length = N by rw [dbOr_length, HS2.out, dsL_length, ngL_length, hN])
      have HZN := Lib.hid (show Z.length = N by rw [HZ.out, dbOr_length, HS1.out]; exact HSl.out)
      have HSe := Lib.hid (fun i (hi : i < N) => show el (dsL xs K) i = dsS xs K i from dsL_el (by rw [← hN]; exact hi))
      have HZe := Lib.hid (fun i (hi : i < N) => show el Z i = dbit (dsS xs K i) by
        rw [HZ.out, dbOr_el (by rw [HS1.out, HSl.out]; exact hi), HS1.out, HSe.out i hi])
      have HYe := Lib.hid (fun i (hi : i < N) => show el (dbOr (ngL xs xs.length) k) i = dbit (-dsS xs K i) by
        rw [dbOr_el (by rw [HS2.out, dsL_length, ngL_length, ← hN]; exact hi), HS2.out, dsL_el (by rw [ngL_length, ← hN]; exact hi), ds_neg (ngL_el xs)])
      have HZb := Lib.hid (show bitsOk Z = true by rw [HZ.out]; exact bits_db)
      have HD1 := Lib.hid (fun W v (hx : Ints .i64 W W.heap.size v xs) => despreadSums_any v c1 xs k W hx HLc.out)
      rw [HS1.out] at HD1
      have HD2 := Lib.hid (fun W v c (hx : Ints .i64 W W.heap.size v (ngL xs xs.length)) (hc : (ngL xs xs.length).length ≤ c) => despreadBits_any v c (ngL xs xs.length) k W hx hc)
      rw [ngL_length] at HD2
      have HNx := Lib.hid (fun m => show ngL xs (m + 1) = ngL xs m ++ [-el xs m] from map_one (fun i => -el xs i) m)
      obtain ⟨bx, ox, rfl⟩ := ints_addrW X4.out (by have := HZN.out; omega)
      have HB4a := Lib.hid (alloc_belowX w4 (.cells #[] 3))
      have hz0 : 0 < Z.length := by omega
      clear hok hK hN hZ0 HZ z3 hN8 hk hng HS1 HS2
      go_wp2
      go_loopw [6, 7] (fun s i wr => ∃ (m : Nat) (v : Option Addr) (cap : Nat), m ≤ xs.length ∧ i = .int .i64 m ∧ s = .slice v m cap ∧ Grow .i64 3 wr w4.heap.size v m cap (ngL xs m) ∧ Below w4.heap.size w4 wr) (fun _ i _ => xs.length - (intOf i).toNat)
      case atStart => exact ⟨0, _, _, Nat.zero_le _, rfl, rfl, Grow.lit0 _ _ _ _ (Nat.le_refl _), HB4a.out⟩
      case round =>
        obtain ⟨m, v, cap, hm, rfl, rfl, hgr, hbel⟩ := hrel
        have HG := Lib.hid hgr
        have HB := Lib.hid hbel
        have hsz : w4.heap.size ≤ wr.heap.size := hbel.size
        clear hgr hbel
        by_cases hlt : m < xs.length
        · have k1 := ints_cellW (X4.out.next HB.out) hlt
          have hin : -8001 ≤ el xs m ∧ el xs m ≤ 8001 := HIn0.out _ (el_mem hlt)
          have HNm := Lib.hid (HNx.out m)
          generalize el xs m = x at *
          generalize ngL xs m = ns at *
          have r1 : IntKind.i64.wrap (-x) = -x := wrapW (by omega)
          have r1' : wrap64 (-x) = -x := wrapW' (by omega)
          clear hin
          go_wp2_with (at_builtin; refine wpList_append1 (.tmp 39) (.tmp 45) w4.heap.size v m cap ns ⟨wr.heap.size, 0, none⟩ (-x) rfl rfl rfl rfl (HG.out.alloc _) (by simp) (by omega) (by simp; omega) ?_; intro a3 cap3 w3' hg3 hb3; have HG3 := Lib.hid hg3; have HB3 := Lib.hid ((HB.out.alloc hsz _).trans hb3); clear hg3 hb3)
          go_roundw
          case rel => exact ⟨m + 1, a3, cap3, by omega, by go_num, rfl, by rw [HNm.out]; exact HG3.out, HB3.out⟩
          case measure => simp [intOf]; omega
        · obtain rfl : xs.length = m := by omega
          have XW := Lib.hid (X4.out.next HB.out)
          have ZW := Lib.hid (Y4.out.next HB.out)
          have HBw := Lib.hid (B4.out.trans (HB.out.mono B4.out.size))
          have GI := Lib.hid HG.out.ints
          have GR := Lib.hid HG.out.room.1
          clear HB HG X4 Y4 B4
          go_wp2_with fail
          refine (HD1.out wr _ XW.out).mono ?_
          rintro e w6 ⟨v6, cv6, rfl, _, o6, b6⟩
          have S6 := Lib.hid (own_of_list o6).ints
          have Z6 := Lib.hid (ZW.out.next b6)
          have G6 := Lib.hid (GI.out.next b6)
          have B6 := Lib.hid (Below.next HBw.out (Nat.le_refl _) b6)
          clear o6 b6
          rw [HSl.out]
          go_wp2_with fail
          refine (HD2.out w6 _ _ G6.out GR.out).mono ?_
          rintro e w7 ⟨v7, cv7, rfl, _, o7, b7⟩
          have N7 := Lib.hid (own_of_list o7).ints
          have S7 := Lib.hid (S6.out.next b7)
          have Z7 := Lib.hid (Z6.out.next b7)
          have B7 := Lib.hid (Below.next B6.out (Nat.le_refl _) b7)
          clear o7 b7 S6 Z6 G6 B6 HD1 HD2 XW ZW HBw GI
          rw [HNl.out]
          generalize dbOr (ngL xs xs.length) k = Y at *
          generalize dsL xs K = S at *
          obtain ⟨bz, oz, rfl⟩ := ints_addrW Z7.out (by omega)
          obtain ⟨bs, os, rfl⟩ := ints_addrW S7.out (by have := HSl.out; have := HZN.out; omega)
          obtain ⟨by', oy, rfl⟩ := ints_addrW N7.out (by have := HNl.out; have := HZN.out; omega)
          have hZN' : (Z.length : Int) = (N : Int) := by rw [HZN.out]
          go_wp2
          go_loopw [10] (fun i wr => ∃ q d : Nat, q ≤ N ∧ i = .int .i64 q ∧ wr = w7.drewN d) (fun i _ => N - (intOf i).toNat)
          case atStart => exact ⟨0, 0, Nat.zero_le _, rfl, rfl⟩
          case round =>
            obtain ⟨q, d, hq, rfl, hwd⟩ := hrel
            have HWd := Lib.hid hwd
            have ZV := Lib.hid (show Ints .i64 wr wr.heap.size (some ⟨bz, oz, none⟩) Z by rw [hwd]; exact Z7.out)
            have SV := Lib.hid (show Ints .i64 wr wr.heap.size (some ⟨bs, os, none⟩) S by rw [hwd]; exact S7.out)
            have YV := Lib.hid (show Ints .i64 wr wr.heap.size (some ⟨by', oy, none⟩) Y by rw [hwd]; exact N7.out)
            clear hwd
            by_cases hlq : q < N
            · have hqZ : q < Z.length := by omega
              have hqS : q < S.length := by rw [HSl.out]; exact hlq
              have hqY : q < Y.length := by rw [HNl.out]; exact hlq
              have k1 := ints_cellW ZV.out hqZ
              have k2 := ints_cellW SV.out hqS
              have k3 := ints_cellW YV.out hqY
              rw [HZe.out q hlq] at k1
              rw [HSe.out q hlq] at k2
              rw [HYe.out q hlq] at k3
              generalize dsS xs K q = s at *
              have hs : 0 < s ∨ s = 0 ∨ s < 0 := by omega
              rcases hs with h | h | h
              · rw [dbit_yes h] at k1
                rw [dbit_no (show ¬ 0 < -s by omega)] at k3
                have z1 : decide (0 < s) = true := by simp [h]
                have z2 : (s != 0) = true := by rw [bne_iff_ne]; omega
                go_wp2
                go_quiet (fail)
                go_wp2
                go_roundw
                case rel => exact ⟨q + 1, _, by omega, by go_num, by rw [HWd.out, World.drewN_drewN]⟩
                case measure => simp [intOf]; omega
              · subst h
                rw [dbit_no (by omega)] at k1
                rw [dbit_no (by omega)] at k3
                go_wp2
                go_quiet (fail)
                go_wp2
                go_roundw
                case rel => exact ⟨q + 1, _, by omega, by go_num, by rw [HWd.out, World.drewN_drewN]⟩
                case measure => simp [intOf]; omega
              · rw [dbit_no (show ¬ 0 < s by omega)] at k1
                rw [dbit_yes (show 0 < -s by omega)] at k3
                have z1 : decide (0 < s) = false := by simp; omega
                have z2 : (s != 0) = true := by rw [bne_iff_ne]; omega
                go_wp2
                go_quiet (fail)
                go_wp2
                go_roundw
                case rel => exact ⟨q + 1, _, by omega, by go_num, by rw [HWd.out, World.drewN_drewN]⟩
                case measure => simp [intOf]; omega
            · obtain rfl : q = N := by omega
              have HBz := Lib.hid (show Below w.heap.size w wr by rw [HWd.out]; exact below_drewN B7.out d)
              have hI := isBits_any (some ⟨bz, oz, none⟩) cv2 wr.heap.size Z wr ZV.out (by unfold maxLen; omega)
              rw [HZb.out] at hI
              have HI := Lib.hid hI
              clear hI
              go_wp2_with fail
              refine HI.out.mono ?_
              rintro e w9 ⟨rfl, rfl⟩
              have e3 : ((q : Int) == (Z.length : Int)) = true := by rw [HZN.out]; simp
              go_wp2
              go_ret
              exact ⟨rfl, HBz.out⟩
  · go_enter Try.func7, Try.ntmps7
    go_wp2
    go_ret
    exact ⟨rfl, Below.refl _ _⟩
end Go.Proofs.Ytnnknfpkbhcghaa
