/-
  The laws of WalshCode, of the group of codes and of AddChips, walked: they return true for every code, and write into nothing that was there. No condition.
-/
import Derived.Test.YtnnknfpkbhcghaaWs4
import Derived.Test.YtnnknfpkbhcghaaWs8
import Derived.Test.YtnnknfpkbhcghaaWsDraw
import Derived.Test.YtnnknfpkbhcghaaLaw1
namespace Go.Proofs.Ytnnknfpkbhcghaa
open Go.RowKit

theorem ints_cellW {k : IntKind} {w : World} {B b off i : Nat} {xs : List Int} (h : Ints k w B (some ⟨b, off, none⟩) xs) (hi : i < xs.length) : w.cell? ⟨b, off + i, none⟩ = some (.int k (el xs i)) := by
  obtain ⟨b', off', e, _, hc⟩ := h.at_ hi
  injection e with e
  injection e with e1 e2
  subst e1 e2
  exact hc
theorem ints_addrW {k : IntKind} {w : World} {B : Nat} {a : Option Addr} {xs : List Int} (h : Ints k w B a xs) (hi : 0 < xs.length) : ∃ b off, a = some ⟨b, off, none⟩ := by
  obtain ⟨b, off, e, _⟩ := h.at_ hi
  exact ⟨b, off, e⟩
theorem walOr_pos {k : Int} (h : (walOr k).length ≠ 0) : ∃ K : Nat, K < 8 ∧ k = (K : Int) ∧ walOr k = wal K := by
  unfold walOr at h ⊢
  split
  · next h2 => exact ⟨k.toNat, by omega, by omega, rfl⟩
  · next h2 => rw [if_neg h2] at h; exact absurd rfl h
theorem walOr_zero {k : Int} (h : (walOr k).length = 0) : k < 0 ∨ 8 ≤ k := by
  by_cases h2 : 0 ≤ k ∧ k ≤ 7
  · unfold walOr at h
    rw [if_pos h2, wal_length] at h
    omega
  · omega
/-- One product of two chips. -/
theorem chip_nums {N x y : Int} {q : Nat} (hN : -(q : Int) ≤ N ∧ N ≤ (q : Int)) (hq : q ≤ 1000) (hx : -1 ≤ x ∧ x ≤ 1) (hy : -1 ≤ y ∧ y ≤ 1) : ∃ p s : Int, p = x * y ∧ s = N + p ∧ IntKind.i64.wrap p = p ∧ wrap64 p = p ∧ IntKind.i64.wrap s = s ∧ wrap64 s = s := by
  have hx' : x = -1 ∨ x = 0 ∨ x = 1 := by omega
  have hy' : y = -1 ∨ y = 0 ∨ y = 1 := by omega
  refine ⟨_, _, rfl, rfl, ?_⟩
  rcases hx' with rfl | rfl | rfl <;> rcases hy' with rfl | rfl | rfl <;> exact ⟨wrapW (by omega), wrapW' (by omega), wrapW (by omega), wrapW' (by omega)⟩
theorem sum_pm {f : Nat → Int} (h : ∀ i, -1 ≤ f i ∧ f i ≤ 1) (q : Nat) : -(q : Int) ≤ sqS f q ∧ sqS f q ≤ (q : Int) := by
  have := sqS_bound (f := f) (M := 1) (n := q) fun i _ => h i
  omega
theorem pm_mul {x y : Int} (hx : -1 ≤ x ∧ x ≤ 1) (hy : -1 ≤ y ∧ y ≤ 1) : -1 ≤ x * y ∧ x * y ≤ 1 := by
  have hx' : x = -1 ∨ x = 0 ∨ x = 1 := by omega
  have hy' : y = -1 ∨ y = 0 ∨ y = 1 := by omega
  rcases hx' with rfl | rfl | rfl <;> rcases hy' with rfl | rfl | rfl <;> omega
theorem adOr_pos {xs ys : List Int} (h : (adOr xs ys).length ≠ 0) : xs.length = ys.length ∧ xs.length ≤ 256 ∧ chOk 1000 xs = true ∧ chOk 1000 ys = true := by
  unfold adOr at h
  split at h
  · assumption
  · exact absurd rfl h
set_option maxHeartbeats 4000000 in
theorem walkWalshCode (a : Option Addr) (c : Nat) (ds : List Int) (w : World) (hx : Ints .u8 w w.heap.size a ds) (hw : ∀ n ∈ ds, (Lit.int .u8 n).wf = true) (hc : ds.length ≤ c) (hcm : c ≤ maxLen) :
    Calls Try.prog 3 #[.slice a ds.length c] w fun e w' => e = .returned (.bool true) ∧ Below w.heap.size w w' := by
  have hb := isByte_of_wf hw
  clear hw
  by_cases hl : ds.length ≤ 1048576
  · go_enter Try.func3, Try.ntmps3
    go_wp2_with fail
    refine (drawWalshCode_any a c ds w hx hb hc hcm).mono ?_
    rintro e w1 ⟨⟨k, hk, rfl⟩, b1⟩
    have B1 := Lib.hid b1
    clear hx hb hc hcm b1
    obtain ⟨Z, hZ⟩ : ∃ Z, Z = walOr k := ⟨_, rfl⟩
    have HZ := Lib.hid hZ
    have hZl : Z.length ≤ 8 := by rw [hZ]; exact walOr_length k
    have z3 : decide (Z = Z) = true := by simp
    clear hZ
    go_wp2_with fail
    refine (walshCode_any k w1).mono ?_
    rw [← HZ.out]
    rintro e w2 ⟨v2, cv2, rfl, _, o2, b2⟩
    have Y2 := Lib.hid (own_of_list o2).ints
    have B2 := Lib.hid (Below.next B1.out (Nat.le_refl _) b2)
    clear o2 b2 B1
    go_wp2_with fail
    refine (specWalshCode_any k w2).mono ?_
    rw [← HZ.out]
    rintro e w3 ⟨v3, cv3, rfl, _, o3, b3⟩
    have U3 := Lib.hid (own_of_list o3).ints
    have Y3 := Lib.hid (Y2.out.next b3)
    have B3 := Lib.hid (Below.next B2.out (Nat.le_refl _) b3)
    clear o3 b3 Y2 B2
    go_wp2_with fail
    refine (sameInts_any v2 v3 cv2 cv3 w3.heap.size w3.heap.size Z Z w3 Y3.out U3.out (by omega)).mono ?_
    rintro e w4 ⟨rfl, n4, rfl⟩
    have B4 := Lib.hid (below_drewN B3.out n4)
    have Y4 : Hid (Ints .i64 (w3.drewN n4) (w3.drewN n4).heap.size v2 Z) := Y3.out
    clear Y3 B3 U3
    generalize w3.drewN n4 = w4 at *
    by_cases hZ0 : Z.length = 0
    · have z4 : ((Z.length : Int) == 0) = true := by simp [hZ0]
      have hbad := walOr_zero (by rw [← HZ.out]; exact hZ0)
      clear hZ0
      by_cases hk0 : k < 0
      · go_wp2_with fail
        refine (alive_any w4).mono ?_
        rintro e w88 ⟨rfl, b88⟩
        have B88 := Lib.hid (Below.next B4.out (Nat.le_refl _) b88)
        clear b88
        go_wp2
        go_ret
        exact ⟨rfl, B88.out⟩
      · have hk8 : 8 ≤ k := by omega
        go_wp2_with fail
        refine (alive_any w4).mono ?_
        rintro e w88 ⟨rfl, b88⟩
        have B88 := Lib.hid (Below.next B4.out (Nat.le_refl _) b88)
        clear b88
        go_wp2
        go_ret
        exact ⟨rfl, B88.out⟩
    · have z4 : ((Z.length : Int) == 0) = false := by rw [beq_eq_false_iff_ne]; omega
      obtain ⟨K, hK, rfl, hZK⟩ := walOr_pos (by rw [← HZ.out]; exact hZ0)
      have hZe : Z = wal K := by rw [HZ.out]; exact hZK
      have hZ8 : Z.length = 8 := by rw [hZe]; exact wal_length K
      have HZe := Lib.hid hZe
      have HPm := Lib.hid (show pmL Z by rw [hZe]; exact wal_pm hK)
      have HK := Lib.hid hK
      obtain ⟨bz, oz, rfl⟩ := ints_addrW Y4.out (by omega)
      clear hZK hZe hZ0 HZ z3
      go_wp2
      go_loopw [5] (fun i wr => ∃ j : Nat, j ≤ 8 ∧ i = .int .i64 j ∧ Below w4.heap.size w4 wr) (fun i _ => 8 - (intOf i).toNat)
      case atStart => exact ⟨0, Nat.zero_le _, rfl, Below.refl _ _⟩
      case round =>
        obtain ⟨j, hj, rfl, hbel⟩ := hrel
        have HB := Lib.hid hbel
        clear hbel
        by_cases hlt : j < 8
        · have HVe := Lib.hid (walOr_yes hlt)
          go_wp2_with fail
          refine (walshCode_any (j : Int) wr).mono ?_
          rw [HVe.out]
          rintro e w6 ⟨v6, cv6, rfl, _, o6, b6⟩
          have V6 := Lib.hid (own_of_list o6).ints
          have Y6 := Lib.hid ((Y4.out.next HB.out).next b6)
          have B6 := Lib.hid (Below.next HB.out (Nat.le_refl _) b6)
          have HPv := Lib.hid (wal_pm hlt)
          have hVl : (wal j).length = 8 := wal_length j
          have HOr := Lib.hid (show sqS (fun i => el Z i * el (wal j) i) 8 = if K = j then 8 else 0 by rw [HZe.out]; exact wal_orth HK.out hlt)
          clear o6 b6
          obtain ⟨bv, ov, rfl⟩ := ints_addrW V6.out (by omega)
          generalize wal j = V at *
          have HV8 := Lib.hid hVl
          have HZ8 := Lib.hid hZ8
          clear hVl
          go_wp2
          go_loopw [7, 8] (fun n i wr => ∃ q d : Nat, q ≤ 8 ∧ i = .int .i64 q ∧ n = .int .i64 (sqS (fun i => el Z i * el V i) q) ∧ wr = w6.drewN d) (fun _ i _ => 8 - (intOf i).toNat)
          case atStart => exact ⟨0, 0, Nat.zero_le _, rfl, rfl, rfl⟩
          case round =>
            obtain ⟨q, d, hq, rfl, rfl, hwd⟩ := hrel
            have HWd := Lib.hid hwd
            have ZW := Lib.hid (show Ints .i64 wr wr.heap.size (some ⟨bz, oz, none⟩) Z by rw [hwd]; exact Y6.out)
            have VW := Lib.hid (show Ints .i64 wr wr.heap.size (some ⟨bv, ov, none⟩) V by rw [hwd]; exact V6.out)
            clear hwd
            by_cases hlq : q < 8
            · have hqZ : q < Z.length := by omega
              have hqV : q < V.length := by rw [HV8.out]; exact hlq
              have k1 := ints_cellW ZW.out hqZ
              have k2 := ints_cellW VW.out hqV
              have HS := Lib.hid (show sqS (fun i => el Z i * el V i) (q + 1) = sqS (fun i => el Z i * el V i) q + el Z q * el V q from rfl)
              have hN := sum_pm (f := fun i => el Z i * el V i) (fun i => pm_mul (HPm.out i) (HPv.out i)) q
              obtain ⟨p, s, hp, hs, r1, r1', r2, r2'⟩ := chip_nums hN (by omega) (HPm.out q) (HPv.out q)
              generalize sqS (fun i => el Z i * el V i) q = N at *
              generalize el Z q = x at *
              generalize el V q = y at *
              rw [hs, hp] at r2 r2'
              rw [hp] at r1 r1'
              clear hp hs hN
              go_wp2
              go_quiet (fail)
              go_wp2
              go_roundw
              case rel => exact ⟨q + 1, _, by omega, by go_num, by rw [HS.out], by rw [HWd.out, World.drewN_drewN]⟩
              case measure => simp [intOf]; omega
            · obtain rfl : q = 8 := by omega
              have HBw := Lib.hid (show Below w4.heap.size w4 wr by rw [HWd.out]; exact below_drewN B6.out d)
              have HO := HOr.out
              generalize sqS (fun i => el Z i * el V i) 8 = N at *
              by_cases e : K = j
              · subst e
                rw [if_pos rfl] at HO
                subst HO
                have q1 : ((K : Int) == (K : Int)) = true := by simp
                have q2 : ((K : Int) != (K : Int)) = false := by simp
                go_wp2
                go_roundw
                case rel => exact ⟨K + 1, by omega, by go_num, HBw.out⟩
                case measure => simp [intOf]; omega
              · rw [if_neg e] at HO
                subst HO
                have q1 : ((j : Int) == (K : Int)) = false := by rw [beq_eq_false_iff_ne]; omega
                have q2 : ((j : Int) != (K : Int)) = true := by rw [bne_iff_ne]; omega
                clear e
                go_wp2
                go_roundw
                case rel => exact ⟨j + 1, by omega, by go_num, HBw.out⟩
                case measure => simp [intOf]; omega
        · obtain rfl : j = 8 := by omega
          have HBw := Lib.hid (B4.out.trans (HB.out.mono B4.out.size))
          go_wp2
          go_ret
          exact ⟨ret_bool (by simp), HBw.out⟩
  · go_enter Try.func3, Try.ntmps3
    go_wp2
    go_ret
    exact ⟨rfl, Below.refl _ _⟩
set_option maxHeartbeats 4000000 in
theorem walkWalshGroup (a : Option Addr) (c : Nat) (ds : List Int) (w : World) (hx : Ints .u8 w w.heap.size a ds) (hw : ∀ n ∈ ds, (Lit.int .u8 n).wf = true) (hc : ds.length ≤ c) (hcm : c ≤ maxLen) :
    Calls Try.prog 8 #[.slice a ds.length c] w fun e w' => e = .returned (.bool true) ∧ Below w.heap.size w w' := by
  have hb := isByte_of_wf hw
  clear hw
  by_cases hl : ds.length ≤ 1048576
  · go_enter Try.func8, Try.ntmps8
    go_wp2_with fail
    refine (drawWalshCode_any a c ds w hx hb hc hcm).mono ?_
    rintro e w1 ⟨⟨k, hk, rfl⟩, b1⟩
    have B1 := Lib.hid b1
    clear hx hb hc hcm b1
    obtain ⟨Z, hZ⟩ : ∃ Z, Z = walOr k := ⟨_, rfl⟩
    have HZ := Lib.hid hZ
    have hZl : Z.length ≤ 8 := by rw [hZ]; exact walOr_length k
    have z3 : decide (Z = Z) = true := by simp
    clear hZ
    go_wp2_with fail
    refine (walshCode_any k w1).mono ?_
    rw [← HZ.out]
    rintro e w2 ⟨v2, cv2, rfl, _, o2, b2⟩
    have Y2 := Lib.hid (own_of_list o2).ints
    have B2 := Lib.hid (Below.next B1.out (Nat.le_refl _) b2)
    clear o2 b2 B1
    go_wp2_with fail
    refine (specWalshCode_any k w2).mono ?_
    rw [← HZ.out]
    rintro e w3 ⟨v3, cv3, rfl, _, o3, b3⟩
    have U3 := Lib.hid (own_of_list o3).ints
    have Y3 := Lib.hid (Y2.out.next b3)
    have B3 := Lib.hid (Below.next B2.out (Nat.le_refl _) b3)
    clear o3 b3 Y2 B2
    go_wp2_with fail
    refine (sameInts_any v2 v3 cv2 cv3 w3.heap.size w3.heap.size Z Z w3 Y3.out U3.out (by omega)).mono ?_
    rintro e w4 ⟨rfl, n4, rfl⟩
    have B4 := Lib.hid (below_drewN B3.out n4)
    have Y4 : Hid (Ints .i64 (w3.drewN n4) (w3.drewN n4).heap.size v2 Z) := Y3.out
    clear Y3 B3 U3
    generalize w3.drewN n4 = w4 at *
    by_cases hZ0 : Z.length = 0
    · have z4 : ((Z.length : Int) == 0) = true := by simp [hZ0]
      clear hZ0
      go_wp2_with fail
      refine (alive_any w4).mono ?_
      rintro e w88 ⟨rfl, b88⟩
      have B88 := Lib.hid (Below.next B4.out (Nat.le_refl _) b88)
      clear b88
      go_wp2
      go_ret
      exact ⟨rfl, B88.out⟩
    · have z4 : ((Z.length : Int) == 0) = false := by rw [beq_eq_false_iff_ne]; omega
      obtain ⟨K, hK, rfl, hZK⟩ := walOr_pos (by rw [← HZ.out]; exact hZ0)
      have hZe : Z = wal K := by rw [HZ.out]; exact hZK
      have hZ8 : Z.length = 8 := by rw [hZe]; exact wal_length K
      have HZe := Lib.hid hZe
      have HPm := Lib.hid (show pmL Z by rw [hZe]; exact wal_pm hK)
      have HK := Lib.hid hK
      obtain ⟨bz, oz, rfl⟩ := ints_addrW Y4.out (by omega)
      clear hZK hZe hZ0 HZ z3
      have HZ8 := Lib.hid hZ8
      go_wp2
      go_loopw [5] (fun i wr => ∃ j : Nat, j ≤ 8 ∧ i = .int .i64 j ∧ Below w4.heap.size w4 wr) (fun i _ => 8 - (intOf i).toNat)
      case atStart => exact ⟨0, Nat.zero_le _, rfl, Below.refl _ _⟩
      case round =>
        obtain ⟨j, hj, rfl, hbel⟩ := hrel
        have HB := Lib.hid hbel
        clear hbel
        by_cases hlt : j < 8
        · have HVe := Lib.hid (walOr_yes hlt)
          have HXe := Lib.hid (walOr_yes (xor8 HK.out hlt))
          have hxor := i64_xor K j (by have := HK.out; omega) (by omega)
          go_wp2_with fail
          refine (walshCode_any (j : Int) wr).mono ?_
          rw [HVe.out]
          rintro e w6 ⟨v6, cv6, rfl, _, o6, b6⟩
          have V6 := Lib.hid (own_of_list o6).ints
          have Y6 := Lib.hid ((Y4.out.next HB.out).next b6)
          have B6 := Lib.hid (Below.next HB.out (Nat.le_refl _) b6)
          clear o6 b6
          go_wp2_with fail
          refine (walshCode_any ((K ^^^ j : Nat) : Int) w6).mono ?_
          rw [HXe.out]
          rintro e w7 ⟨v7, cv7, rfl, _, o7, b7⟩
          have X7 := Lib.hid (own_of_list o7).ints
          have V7 := Lib.hid (V6.out.next b7)
          have Y7 := Lib.hid (Y6.out.next b7)
          have B7 := Lib.hid (Below.next B6.out (Nat.le_refl _) b7)
          have HVl := Lib.hid (wal_length j)
          have HXl := Lib.hid (wal_length (K ^^^ j))
          have HSym := Lib.hid (show el Z j = el (wal j) K by rw [HZe.out, wal_el hlt, wal_el HK.out, sg_sym])
          have HGr := Lib.hid (fun i (hi : i < 8) => show el (wal (K ^^^ j)) i = el Z i * el (wal j) i by rw [HZe.out, wal_el hi, wal_el hi, wal_el hi]; exact sg_group HK.out hlt hi)
          have HPv := Lib.hid (wal_pm hlt)
          clear o7 b7 V6 Y6 B6 HVe HXe hxor
          obtain ⟨bv, ov, rfl⟩ := ints_addrW V7.out (by have := HVl.out; omega)
          obtain ⟨bx, ox, rfl⟩ := ints_addrW X7.out (by have := HXl.out; omega)
          generalize wal (K ^^^ j) = X at *
          generalize wal j = V at *
          generalize K ^^^ j = KJ at *
          have hjZ : j < Z.length := by omega
          have hKV : K < V.length := by rw [HVl.out]; exact HK.out
          have hj8 : (j : Int) < 8 := by omega
          have c1 := fun n => (show (w7.drewN n).cell? ⟨bz, oz + j, none⟩ = some (.int .i64 (el Z j)) from ints_cellW Y7.out hjZ)
          have c2 := fun n => (show (w7.drewN n).cell? ⟨bv, ov + K, none⟩ = some (.int .i64 (el V K)) from ints_cellW V7.out hKV)
          have c1' := c1 0
          have c2' := c2 0
          rw [HSym.out] at c1 c1'
          have q1 : (el V K != el V K) = false := by simp
          generalize el V K = y at *
          go_wp2
          go_quiet (fail)
          go_wp2
          clear c1 c2 c1' c2' q1
          go_loopw [8] (fun i wr => ∃ q d : Nat, q ≤ 8 ∧ i = .int .i64 q ∧ wr = w7.drewN d) (fun i _ => 8 - (intOf i).toNat)
          case atStart => exact ⟨0, _, Nat.zero_le _, rfl, rfl⟩
          case round =>
            obtain ⟨q, d, hq, rfl, hwd⟩ := hrel
            have HWd := Lib.hid hwd
            have ZW := Lib.hid (show Ints .i64 wr wr.heap.size (some ⟨bz, oz, none⟩) Z by rw [hwd]; exact Y7.out)
            have VW := Lib.hid (show Ints .i64 wr wr.heap.size (some ⟨bv, ov, none⟩) V by rw [hwd]; exact V7.out)
            have XW := Lib.hid (show Ints .i64 wr wr.heap.size (some ⟨bx, ox, none⟩) X by rw [hwd]; exact X7.out)
            clear hwd
            by_cases hlq : q < 8
            · have hqZ : q < Z.length := by omega
              have hqV : q < V.length := by rw [HVl.out]; exact hlq
              have hqX : q < X.length := by rw [HXl.out]; exact hlq
              have k1 := ints_cellW ZW.out hqZ
              have k2 := ints_cellW VW.out hqV
              have k3 := ints_cellW XW.out hqX
              obtain ⟨v, hv, r1, r1', _⟩ := pm_nums (HPm.out q) (HPv.out q)
              rw [HGr.out q hlq, hv] at k3
              have z5 : (v != v) = false := by simp
              generalize el Z q = x at *
              generalize el V q = y at *
              have s1 : IntKind.i64.wrap (x * y) = v := by rw [hv]; exact r1
              have s1' : wrap64 (x * y) = v := by rw [hv]; exact r1'
              clear hv r1 r1'
              go_wp2
              go_quiet (fail)
              go_wp2
              go_roundw
              case rel => exact ⟨q + 1, _, by omega, by go_num, by rw [HWd.out, World.drewN_drewN]⟩
              case measure => simp [intOf]; omega
            · obtain rfl : q = 8 := by omega
              have HBw := Lib.hid (show Below w4.heap.size w4 wr by rw [HWd.out]; exact below_drewN B7.out d)
              go_wp2
              go_roundw
              case rel => exact ⟨j + 1, by omega, by go_num, HBw.out⟩
              case measure => simp [intOf]; omega
        · obtain rfl : j = 8 := by omega
          have HBw := Lib.hid (B4.out.trans (HB.out.mono B4.out.size))
          go_wp2
          go_ret
          exact ⟨rfl, HBw.out⟩
  · go_enter Try.func8, Try.ntmps8
    go_wp2
    go_ret
    exact ⟨rfl, Below.refl _ _⟩
set_option maxHeartbeats 4000000 in
theorem walkAddChips (a : Option Addr) (c : Nat) (ds : List Int) (w : World) (hx : Ints .u8 w w.heap.size a ds) (hw : ∀ n ∈ ds, (Lit.int .u8 n).wf = true) (hc : ds.length ≤ c) (hcm : c ≤ maxLen) :
    Calls Try.prog 5 #[.slice a ds.length c] w fun e w' => e = .returned (.bool true) ∧ Below w.heap.size w w' := by
  have hb := isByte_of_wf hw
  clear hw
  by_cases hl : ds.length ≤ 1048576
  · go_enter Try.func5, Try.ntmps5
    go_wp2_with fail
    refine (drawAddChips_any a c ds w hx hb hc hcm).mono ?_
    rintro e w1 ⟨xs, a1, c1, ys, a2, c2, rfl, ⟨lx, i1⟩, ⟨ly, i2⟩, b1⟩
    have X1 := Lib.hid i1
    have J1 := Lib.hid i2
    have B1 := Lib.hid b1
    clear hx hb hc hcm i1 i2 b1
    obtain ⟨C, hC⟩ : ∃ C, C = adOr xs ys := ⟨_, rfl⟩
    have HC := Lib.hid hC
    have hCl : C.length ≤ 256 := by rw [hC]; exact adOr_length xs ys
    have z3 : decide (C = C) = true := by simp
    clear hC
    have hlx : xs.length ≤ 33 := lx.1
    have hly : ys.length ≤ 33 := ly.1
    clear lx ly
    go_wp2_with fail
    refine (addChips_any a1 a2 c1 c2 xs ys w1 X1.out J1.out).mono ?_
    rw [← HC.out]
    rintro e w2 ⟨v2, cv2, rfl, _, o2, b2⟩
    have Y2 := Lib.hid (own_of_list o2).ints
    have X2 := Lib.hid (X1.out.next b2)
    have J2 := Lib.hid (J1.out.next b2)
    have B2 := Lib.hid (Below.next B1.out (Nat.le_refl _) b2)
    clear o2 b2 X1 J1 B1
    go_wp2_with fail
    refine (specAddChips_any a1 a2 c1 c2 xs ys w2 X2.out J2.out (by unfold maxLen; omega) (by unfold maxLen; omega)).mono ?_
    rw [← HC.out]
    rintro e w3 ⟨v3, cv3, rfl, _, o3, b3⟩
    have U3 := Lib.hid (own_of_list o3).ints
    have Y3 := Lib.hid (Y2.out.next b3)
    have X3 := Lib.hid (X2.out.next b3)
    have J3 := Lib.hid (J2.out.next b3)
    have B3 := Lib.hid (Below.next B2.out (Nat.le_refl _) b3)
    clear o3 b3 X2 J2 Y2 B2
    go_wp2_with fail
    refine (sameInts_any v2 v3 cv2 cv3 w3.heap.size w3.heap.size C C w3 Y3.out U3.out (by omega)).mono ?_
    rintro e w4 ⟨rfl, n4, rfl⟩
    have B4 := Lib.hid (below_drewN B3.out n4)
    have Y4 : Hid (Ints .i64 (w3.drewN n4) (w3.drewN n4).heap.size v2 C) := Y3.out
    have X4 : Hid (Ints .i64 (w3.drewN n4) (w3.drewN n4).heap.size a1 xs) := X3.out
    have J4 : Hid (Ints .i64 (w3.drewN n4) (w3.drewN n4).heap.size a2 ys) := J3.out
    clear Y3 X3 J3 B3 U3
    generalize w3.drewN n4 = w4 at *
    go_wp2_with fail
    refine (addChips_any a2 a1 c2 c1 ys xs w4 J4.out X4.out).mono ?_
    rw [adOr_comm xs ys, ← HC.out]
    rintro e w5 ⟨v5, cv5, rfl, _, o5, b5⟩
    have U5 := Lib.hid (own_of_list o5).ints
    have Y5 := Lib.hid (Y4.out.next b5)
    have X5 := Lib.hid (X4.out.next b5)
    have B5 := Lib.hid (Below.next B4.out (Nat.le_refl _) b5)
    clear o5 b5 X4 J4 Y4 B4
    go_wp2_with fail
    refine (sameInts_any v2 v5 cv2 cv5 w5.heap.size w5.heap.size C C w5 Y5.out U5.out (by omega)).mono ?_
    rintro e w6 ⟨rfl, n6, rfl⟩
    have B6 := Lib.hid (below_drewN B5.out n6)
    have X6 : Hid (Ints .i64 (w5.drewN n6) (w5.drewN n6).heap.size a1 xs) := X5.out
    clear Y5 X5 B5 U5
    generalize w5.drewN n6 = w6 at *
    by_cases hC0 : C.length = 0
    · have z4 : ((C.length : Int) == 0) = true := by simp [hC0]
      clear hC0
      go_wp2_with fail
      refine (alive_any w6).mono ?_
      rintro e w88 ⟨rfl, b88⟩
      have B88 := Lib.hid (Below.next B6.out (Nat.le_refl _) b88)
      clear b88
      go_wp2
      go_ret
      exact ⟨rfl, B88.out⟩
    · have z4 : ((C.length : Int) == 0) = false := by rw [beq_eq_false_iff_ne]; omega
      have hok := adOr_pos (by rw [← HC.out]; exact hC0)
      have HZr := Lib.hid (adOr_zero hok.2.1 hok.2.2.1)
      have HCx := Lib.hid (show C.length = xs.length by rw [HC.out, adOr_yes hok.1 hok.2.1 hok.2.2.1 hok.2.2.2, adL_length])
      have hmk := makeX xs.length (by omega) w6
      have R7 := Lib.hid (rowX_made w6 (fun _ => 0) xs.length)
      have B7 := Lib.hid (alloc_belowX w6 (.cells (madeCells #[.int .i64 0] xs.length) 3))
      have X7 := Lib.hid (X6.out.next B7.out)
      have B7' := Lib.hid (Below.next B6.out (Nat.le_refl _) B7.out)
      have z5 : decide (xs = xs) = true := by simp
      clear hok hC0 HC
      go_wp2_with fail
      clear hmk
      generalize w6.alloc (.cells (madeCells #[.int .i64 0] xs.length) 3) = w7 at *
      have h8 := addChips_any a1 (some ⟨w6.heap.size, 0, none⟩) c1 xs.length xs (mkX (fun _ => 0) xs.length 0) w7 X7.out R7.out.ints
      rw [mkX_length, mkX_start, HZr.out] at h8
      refine h8.mono ?_
      clear h8
      rintro e w8 ⟨v8, cv8, rfl, _, o8, b8⟩
      have U8 := Lib.hid (own_of_list o8).ints
      have X8 := Lib.hid (X7.out.next b8)
      have B8 := Lib.hid (Below.next B7'.out (Nat.le_refl _) b8)
      clear o8 b8
      go_wp2_with fail
      refine (sameInts_any v8 a1 cv8 c1 w8.heap.size w8.heap.size xs xs w8 U8.out X8.out (by omega)).mono ?_
      rintro e w9 ⟨rfl, n9, rfl⟩
      have B9 := Lib.hid (below_drewN B8.out n9)
      have z6 : ((C.length : Int) == (xs.length : Int)) = true := by rw [HCx.out]; simp
      go_wp2
      go_ret
      exact ⟨rfl, B9.out⟩
  · go_enter Try.func5, Try.ntmps5
    go_wp2
    go_ret
    exact ⟨rfl, Below.refl _ _⟩
end Go.Proofs.Ytnnknfpkbhcghaa
