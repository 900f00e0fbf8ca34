/-
  The law of SliceBits, walked: it returns true for every code, and writes into nothing that was there. No condition.
-/
import Derived.Test.YtmolpeemifngcaaSigDraw
import Derived.Test.YtmolpeemifngcaaSig4
import Derived.Test.YtmolpeemifngcaaSlc3
import Derived.Test.YtmolpeemifngcaaLaw1
namespace Go.Proofs.Ytmolpeemifngcaa
open Go.RowKit

set_option maxHeartbeats 1000000 in
theorem order_any (R p : Nat) (w : World) (hr : Rd w R p) (hp : p ≤ 549755813888) :
    Calls Try.prog 45 #[.pointer (some ⟨R, 0, none⟩)] w fun e w' => ∃ o : Int, (-1 ≤ o ∧ o ≤ 5) ∧ e = .returned (.int .i64 o) ∧ w.grownBy w' (some R) := by
  have HR0 := Lib.hid hr
  have hRw := hr.lt
  clear hr
  go_enter Try.func45, Try.ntmps45
  go_wp2_with fail
  refine (pick_any R p 8 _ ((HR0.out.alloc _).alloc _) (by omega) (by omega) (by omega)).mono ?_
  rintro e w3 ⟨v3, ⟨hv3, hv3'⟩, rfl, r3, g3⟩
  obtain ⟨k, rfl⟩ := Int.eq_ofNat_of_zero_le hv3
  have hk : k < 8 := by omega
  have hcell : ∃ j : Nat, j < 5 ∧ w3.cell? ⟨w.heap.size + 1, k, none⟩ = some (.int .i64 (j : Int)) := by
    rw [(cell_grown2 g3 hRw).2]
    match k, hk with
    | 0, _ | 1, _ => exact ⟨0, by decide, rfl⟩
    | 2, _ | 3, _ => exact ⟨1, by decide, rfl⟩
    | 4, _ | 5, _ => exact ⟨2, by decide, rfl⟩
    | 6, _ => exact ⟨3, by decide, rfl⟩
    | 7, _ => exact ⟨4, by decide, rfl⟩
    | (m + 8), h => exact absurd h (by omega)
  obtain ⟨j, hj, hc⟩ := hcell
  have hcell2 : ∃ x : Int, (-1 ≤ x ∧ x ≤ 5) ∧ w3.cell? ⟨w.heap.size, j, none⟩ = some (.int .i64 x) := by
    rw [(cell_grown2 g3 hRw).1]
    match j, hj with
    | 0, _ | 1, _ | 2, _ | 3, _ | 4, _ => exact ⟨_, ⟨by decide, by decide⟩, rfl⟩
    | (m + 5), h => exact absurd h (by omega)
  obtain ⟨x, hx, hc2⟩ := hcell2
  have HX := Lib.hid hx
  have G3 := Lib.hid (grown_trans (grown_alloc (grown_alloc (World.grownBy.refl w (some R)) _) _) g3)
  clear r3 g3 hv3 hv3' hx
  go_wp2
  go_ret
  exact ⟨x, HX.out, rfl, G3.out⟩
set_option maxHeartbeats 1000000 in
theorem drawSliceBits_any (a : Option Addr) (c : Nat) (ds : List Int) (w : World) (hx : Ints .u8 w w.heap.size a ds) (hw : ∀ n ∈ ds, isByte n) (hc : ds.length ≤ c) (hcm : c ≤ maxLen) :
    Calls Try.prog 26 #[.slice a ds.length c] w (SigNumOut w) := by
  have hl : ds.length ≤ maxLen := Nat.le_trans hc hcm
  go_enter Try.func26, Try.ntmps26
  go_wp2_with fail
  refine (open_any a c ds w hx hw hc hl hcm).mono ?_
  rintro e w1 ⟨rfl, r1, b1⟩
  have R1 := Lib.hid r1
  have B1 := Lib.hid b1
  clear hx hw hc hcm hl r1 b1
  go_wp2_with fail
  refine (signal_any w.heap.size 0 12 w1 R1.out (by omega) (by omega) (by omega)).mono ?_
  rintro e w2 ⟨ps, b, cap, p', rfl, l2, c2, i2, n2, r2, hp2, g2⟩
  have R2 := Lib.hid r2
  have B2 := Lib.hid (below_R B1.out g2)
  have S2 := Lib.hid i2
  have N2 := Lib.hid n2
  have L2 := Lib.hid l2
  have C2 := Lib.hid c2
  clear l2 c2 i2 r2 g2 n2
  go_wp2_with fail
  refine (order_any w.heap.size p' w2 R2.out (by omega)).mono ?_
  rintro e w3 ⟨o, ho, rfl, g3⟩
  have HO := Lib.hid ho
  have B3 := Lib.hid (below_R B2.out g3)
  have S3 := Lib.hid ((S2.out.grown g3 (Nat.le_refl _) N2.out).more g3.size)
  clear ho g3
  go_wp2
  go_ret2
  exact ⟨ps, b, cap, o, rfl, HO.out, L2.out, C2.out, S3.out, B3.out⟩
theorem digits_bit (r n : Nat) : ∀ x ∈ digits r n, isBit x = true := by
  intro x hx
  simp only [digits, bitList, List.mem_map] at hx
  obtain ⟨k, _, rfl⟩ := hx
  split <;> rfl
theorem slcs_bit (o : Nat) (ps : List Smp) : ∀ x ∈ slcs o ps, isBit x = true := by
  intro x hx
  simp only [slcs, List.mem_flatMap] at hx
  obtain ⟨p, _, hp⟩ := hx
  exact digits_bit _ _ x hp
/-- What becomes of a signal that is sliced. -/
theorem slice_facts {ps : List Smp} {o : Int} (h : (slcOr ps o).length ≠ 0) : ∃ O : Nat, o = (O : Int) ∧ O ≤ 4 ∧ sigOk ps = true ∧ slcOr ps o = slcs O ps ∧ bitsOk (slcOr ps o) = true ∧ (slcOr ps o).length = O * ps.length := by
  have hl := slcOr_length ps o
  by_cases hc : sigOk ps = true ∧ 0 ≤ o ∧ ordOk o.toNat = true
  · obtain ⟨hok, h0, h3⟩ := hc
    obtain ⟨O, rfl⟩ := Int.eq_ofNat_of_zero_le h0
    have e : slcOr ps (O : Int) = slcs O ps := slcOr_yes hok h3
    refine ⟨O, rfl, by rcases ordOk_cases h3 with e | e | e <;> rw [Int.toNat_natCast] at e <;> omega, hok, e, ?_, by rw [e, slcs_length, Nat.mul_comm]⟩
    simp only [bitsOk, Bool.and_eq_true, decide_eq_true_eq, List.all_eq_true]
    exact ⟨hl, fun x hx => slcs_bit O ps x (by rw [← e]; exact hx)⟩
  · have : slcOr ps o = [] := by unfold slcOr; rw [if_neg hc]
    rw [this] at h
    exact absurd rfl h
theorem slcs_one : ∀ ps : List Smp, slcs 1 ps = ps.map fun p => ((dec1 p.1 : Nat) : Int)
  | [] => rfl
  | p :: ps => by
    have e : slcs 1 (p :: ps) = slc 1 p ++ slcs 1 ps := rfl
    have e2 : slc 1 p = [((dec1 p.1 : Nat) : Int)] := by
      rw [slc_one]
      rcases dec1_cases p.1 with ⟨_, h, h'⟩ | ⟨_, h, h'⟩ <;> rw [h, h'] <;> rfl
    rw [e, e2, slcs_one ps, List.map_cons]
    rfl
theorem one_at {ps : List Smp} {k : Nat} (h : k < ps.length) : el (slcs 1 ps) k = ((dec1 (sI ps k) : Nat) : Int) := by
  rw [slcs_one]
  simp [el, sI, sp, h]
theorem neg_at {ps : List Smp} {k : Nat} (h : k < ps.length) : el (slcs 1 (ps.map (turnN 2))) k = ((dec1 (-sI ps k) : Nat) : Int) := by
  rw [one_at (by rw [List.length_map]; exact h), (map_sI 2 h).1]
  rfl
theorem one_neg {x : Int} (h : x ≠ 0) : ((dec1 x : Nat) : Int) + ((dec1 (-x) : Nat) : Int) = 1 := by
  rcases dec1_cases x with ⟨h1, e, _⟩ | ⟨h1, e, _⟩ <;> rcases dec1_cases (-x) with ⟨h2, e2, _⟩ | ⟨h2, e2, _⟩ <;> rw [e, e2] <;> omega
set_option maxHeartbeats 4000000 in
theorem walkSliceBits (a : Option Addr) (c : Nat) (ds : List Int) (w : World) (hx : Ints .u8 w w.heap.size a ds) (hw : ∀ n ∈ ds, (Lit.int .u8 n).wf = true) (hc : ds.length ≤ c) (hcm : c ≤ maxLen) :
    Calls Try.prog 6 #[.slice a ds.length c] w fun e w' => e = .returned (.bool true) ∧ Below w.heap.size w w' := by
  have hb := isByte_of_wf hw
  clear hw
  by_cases hl : ds.length ≤ 1048576
  · go_enter Try.func6, Try.ntmps6
    go_wp2_with fail
    refine (drawSliceBits_any a c ds w hx hb hc hcm).mono ?_
    rintro e w1 ⟨ps, b0, c1, o, rfl, _, l1, _, i1, b1⟩
    have X1 := Lib.hid i1
    have B1 := Lib.hid b1
    have L1 := Lib.hid l1
    clear hx hb hc hcm i1 b1 l1
    obtain ⟨S, hS⟩ : ∃ S, S = slcOr ps o := ⟨_, rfl⟩
    have HS := Lib.hid hS
    have HSl : Hid (S.length ≤ 1024) := by show S.length ≤ 1024; rw [hS]; exact slcOr_length ps o
    have z3 : decide (S = S) = true := by simp
    clear hS
    go_wp2_with fail
    refine (sliceBits_any (some ⟨b0, 0, none⟩) c1 ps o w1 X1.out).mono ?_
    rw [← HS.out]
    rintro e w2 ⟨v2, cv2, rfl, _, o2, b2⟩
    have Y2 := Lib.hid (own_of_list o2).ints
    have X2 := Lib.hid (X1.out.next b2)
    have B2 := Lib.hid (Below.next B1.out (Nat.le_refl _) b2)
    clear o2 b2 X1 B1
    go_wp2_with fail
    refine (specSliceBits_any (some ⟨b0, 0, none⟩) c1 ps o w2 X2.out (by have := L1.out; unfold maxLen; omega)).mono ?_
    rw [← HS.out]
    rintro e w3 ⟨v3, cv3, rfl, _, o3, b3⟩
    have U3 := Lib.hid (own_of_list o3).ints
    have Y3 := Lib.hid (Y2.out.next b3)
    have X3 := Lib.hid (X2.out.next b3)
    have B3 := Lib.hid (Below.next B2.out (Nat.le_refl _) b3)
    clear o3 b3 Y2 X2 B2
    go_wp2_with fail
    refine (sameInts_any v2 v3 cv2 cv3 w3.heap.size w3.heap.size S S w3 Y3.out U3.out (by have := HSl.out; omega)).mono ?_
    rintro e w4 ⟨rfl, n4, rfl⟩
    have B4 := Lib.hid (below_drewN B3.out n4)
    have Y4 : Hid (Ints .i64 (w3.drewN n4) (w3.drewN n4).heap.size v2 S) := Y3.out
    have X4 : Hid (Sigs (w3.drewN n4) (w3.drewN n4).heap.size (some ⟨b0, 0, none⟩) ps) := X3.out
    clear Y3 X3 B3 U3
    generalize w3.drewN n4 = w4 at *
    by_cases hs0 : S.length = 0
    · have z4 : ((S.length : Int) == 0) = true := by simp [hs0]
      clear hs0
      go_wp2_with fail
      refine (alive_any w4).mono ?_
      rintro e w8 ⟨rfl, b8⟩
      have B8 := Lib.hid (Below.next B4.out (Nat.le_refl _) b8)
      clear b8
      go_wp2
      go_ret
      exact ⟨rfl, B8.out⟩
    · have z4 : ((S.length : Int) == 0) = false := by rw [beq_eq_false_iff_ne]; omega
      obtain ⟨O, rfl, hO4, hok, hSO, hSb, hSn⟩ := slice_facts (ps := ps) (o := o) (by rw [← HS.out]; exact hs0)
      rw [← HS.out] at hSb hSn
      obtain ⟨one, hone⟩ : ∃ one, one = slcs 1 ps := ⟨_, rfl⟩
      obtain ⟨qs, hqs⟩ : ∃ qs, qs = ps.map (turnN 2) := ⟨_, rfl⟩
      obtain ⟨neg, hneg⟩ : ∃ neg, neg = slcs 1 qs := ⟨_, rfl⟩
      have H1 : Hid (slcOr ps 1 = one) := by show slcOr ps 1 = one; rw [hone]; exact slcOr_yes (O := 1) hok rfl
      have H2 : Hid (turnOr ps 2 = qs) := by show turnOr ps 2 = qs; rw [hqs]; exact turnOr_yes (Q := 2) hok (by omega)
      have H3 : Hid (slcOr qs 1 = neg) := by show slcOr qs 1 = neg; rw [hneg]; exact slcOr_yes (O := 1) (by rw [hqs]; exact sigOk_map hok 2) rfl
      have N1 : Hid (one.length = ps.length) := by show one.length = ps.length; rw [hone, slcs_length, Nat.mul_one]
      have N2 : Hid (neg.length = ps.length) := by show neg.length = ps.length; rw [hneg, slcs_length, Nat.mul_one, hqs, List.length_map]
      have HA : Hid (∀ k, k < ps.length → sI ps k ≠ 0 → el one k + el neg k = 1) := fun k hk h0 => by rw [hone, hneg, hqs, one_at hk, neg_at hk]; exact one_neg h0
      have SB := Lib.hid hSb
      have SN := Lib.hid hSn
      have HO4 := Lib.hid hO4
      clear hs0 hok hSO hSb hSn hone hqs hneg hO4
      go_wp2_with fail
      refine (sliceBits_any (some ⟨b0, 0, none⟩) c1 ps 1 w4 X4.out).mono ?_
      rw [H1.out]
      rintro e w5 ⟨v5, cv5, rfl, _, o5, b5⟩
      have V5 := Lib.hid (own_of_list o5).ints
      have Y5 := Lib.hid (Y4.out.next b5)
      have X5 := Lib.hid (X4.out.next b5)
      have B5 := Lib.hid (Below.next B4.out (Nat.le_refl _) b5)
      rw [N1.out]
      clear o5 b5 Y4 X4 B4
      go_wp2_with fail
      refine (turnSamples_any (some ⟨b0, 0, none⟩) c1 ps 2 w5 X5.out).mono ?_
      rw [H2.out]
      rintro e w6 ⟨v6, cv6, rfl, _, o6, b6⟩
      have T6 := Lib.hid o6.sigs
      have V6 := Lib.hid (V5.out.next b6)
      have Y6 := Lib.hid (Y5.out.next b6)
      have X6 := Lib.hid (X5.out.next b6)
      have B6 := Lib.hid (Below.next B5.out (Nat.le_refl _) b6)
      clear o6 b6 Y5 X5 B5 V5
      go_wp2_with fail
      refine (sliceBits_any v6 cv6 qs 1 w6 T6.out).mono ?_
      rw [H3.out]
      rintro e w7 ⟨v7, cv7, rfl, _, o7, b7⟩
      have U7 := Lib.hid (own_of_list o7).ints
      have V7 := Lib.hid (V6.out.next b7)
      have Y7 := Lib.hid (Y6.out.next b7)
      have X7 := Lib.hid (X6.out.next b7)
      have B7 := Lib.hid (Below.next B6.out (Nat.le_refl _) b7)
      rw [N2.out]
      clear o7 b7 Y6 X6 B6 V6 T6
      have hne : ((ps.length : Int) != (ps.length : Int)) = false := by simp
      go_wp2
      clear hne
      go_loopw [8] (fun i wr => ∃ k n : Nat, k ≤ ps.length ∧ i = .int .i64 k ∧ wr = w7.drewN n) (fun i _ => ps.length - (intOf i).toNat)
      case atStart => exact ⟨0, 0, Nat.zero_le _, rfl, rfl⟩
      case round =>
        obtain ⟨k, n, hk, rfl, rfl⟩ := hrel
        have hk2 : k ≤ 300 := Nat.le_trans hk L1.out
        by_cases hlt : k < ps.length
        · obtain ⟨b, off, hbo, _, hc0, hc1⟩ := X7.out.at_ hlt
          injection hbo with hbo
          injection hbo with e1 e2
          subst e1 e2
          rw [Nat.zero_add] at hc0 hc1
          have hlt1 : k < one.length := by rw [N1.out]; exact hlt
          have hlt2 : k < neg.length := by rw [N2.out]; exact hlt
          obtain ⟨bv, ov, rfl, _, hv⟩ := V7.out.at_ hlt1
          obtain ⟨bu, ou, rfl, _, hu⟩ := U7.out.at_ hlt2
          obtain ⟨X, hX⟩ : ∃ X, X = sI ps k := ⟨_, rfl⟩
          obtain ⟨A, hAA⟩ : ∃ A, A = el one k := ⟨_, rfl⟩
          obtain ⟨N, hNN⟩ : ∃ N, N = el neg k := ⟨_, rfl⟩
          rw [← hX] at hc0
          rw [← hAA] at hv
          rw [← hNN] at hu
          by_cases h0 : X = 0
          · have z0 : (X != 0) = false := by simp [h0]
            clear h0 hX hAA hNN hlt1 hlt2
            go_wp2
            go_quiet (fail)
            go_wp2
            go_roundw
            case rel => exact ⟨k + 1, _, by omega, by go_num, rfl⟩
            case measure => simp [intOf]; omega
          · have z0 : (X != 0) = true := by simpa using h0
            have hs : A + N = 1 := by rw [hAA, hNN]; exact HA.out k hlt (by rw [← hX]; exact h0)
            have r1 : IntKind.i64.wrap (A + N) = 1 := by rw [hs]; decide
            have z1 : ((1 : Int) != 1) = false := by decide
            clear h0 hs hX hAA hNN hlt1 hlt2
            go_wp2
            go_quiet (fail)
            go_wp2
            go_roundw
            case rel => exact ⟨k + 1, _, by omega, by go_num, rfl⟩
            case measure => simp [intOf]; omega
        · obtain rfl : ps.length = k := by omega
          have hkb : decide ((ps.length : Int) < (ps.length : Int)) = false := by simp
          have hSm : S.length ≤ maxLen := Nat.le_trans HSl.out (by decide)
          have hS63 : S.length < 2 ^ 63 := Nat.lt_of_le_of_lt HSl.out (by decide)
          have Y8 : Hid (Ints .i64 (w7.drewN n) (w7.drewN n).heap.size v2 S) := Y7.out
          have B8 := Lib.hid (below_drewN B7.out n)
          have HI := Lib.hid (isBits_any v2 cv2 (w7.drewN n).heap.size S (w7.drewN n) Y8.out hSm)
          rw [SB.out] at HI
          have r1 : wrap64 ((O : Int) * (ps.length : Int)) = (S.length : Int) := by rw [← Int.natCast_mul, ← SN.out]; exact wrap64_in hS63
          have z1 : ((S.length : Int) == (S.length : Int)) = true := by simp
          clear hk hlt hSm hS63
          go_wp2_with fail
          refine HI.out.mono ?_
          rintro e w9 ⟨rfl, rfl⟩
          go_wp2
          go_ret
          exact ⟨rfl, B8.out⟩
  · go_enter Try.func6, Try.ntmps6
    go_wp2
    go_ret
    exact ⟨rfl, Below.refl _ _⟩
end Go.Proofs.Ytmolpeemifngcaa
