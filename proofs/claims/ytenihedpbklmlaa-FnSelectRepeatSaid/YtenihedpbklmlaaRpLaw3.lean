/-
  The law of selective repetition, walked: it returns true for every list of bytes. Condition: bytes that can be read.
-/
import Derived.Test.YtenihedpbklmlaaRpLaw1
namespace Go.Proofs.Ytenihedpbklmlaa
open Go.RowKit

/-- Who has arrived behind the first k transmissions. -/
def lstD (ls : List Bool) (X : List Int) (k j : Nat) : Bool := lastF (bt ls) (fun _ => false) 0 (X.take k) j
theorem lstD_next {ls : List Bool} {X : List Int} {k j q : Nat} (hk : k < X.length) (hq : el X k = (q : Int)) : lstD ls X (k + 1) j = if j = q then !bt ls k else lstD ls X k j := by
  unfold lstD
  rw [take_el hk, lastF_app, hq, List.length_take, show 0 + min k X.length = k by omega]
  show (if (j : Int) = (q : Int) then !bt ls k else _) = _
  by_cases e : j = q
  · rw [if_pos e, if_pos (by omega)]
  · rw [if_neg e, if_neg (by omega)]
set_option maxRecDepth 100000 in
set_option maxHeartbeats 8000000 in
theorem walkSelectRepeat (a : Option Addr) (c : Nat) (ds : List Int) (w : World) (hx : Ints .u8 w w.heap.size a ds) (hw : ∀ n ∈ ds, (Lit.int .u8 n).wf = true) (hc : ds.length ≤ c) (hcm : c ≤ maxLen) :
    Calls Try.prog 8 #[.slice a ds.length c] w fun e w' => e = .returned (.bool true) ∧ Below w.heap.size w w' := by
  have hb := isByte_of_wf hw
  clear hw
  by_cases hl : ds.length ≤ 1048576
  · go_enter Try.func8, Try.ntmps8
    go_wp2_with fail
    refine (drawSelectRepeat_any a c ds w hx hb hc hcm).mono ?_
    rintro e w1 ⟨n, v, ls, al, cl, rfl, hls, bls, bl⟩
    have B1 := Lib.hid bl
    have L1 := Lib.hid bls
    have HLS := Lib.hid hls
    clear hx hb hc hcm bl hl bls hls
    obtain ⟨o, ho⟩ : ∃ o, srO n v (bt ls) = o := ⟨_, rfl⟩
    obtain ⟨X, hX⟩ : ∃ X, X = optL o := ⟨_, rfl⟩
    obtain ⟨b, hbb⟩ : ∃ b, b = o.isSome := ⟨_, rfl⟩
    have hol : X.length ≤ 330 := by rw [hX, ← ho]; exact srO_len
    have HXb := Lib.hid (And.intro hX hbb)
    have HO := Lib.hid ho
    have z1 : decide (X = X) = true := by simp
    have z2 : (b != b) = false := by simp
    clear ho hX hbb
    go_wp2_with fail
    refine (selectRepeat_any n v al cl ls w1 L1.out).mono ?_
    unfold OptP
    rw [HO.out, ← HXb.out.1, ← HXb.out.2]
    intro e w2 h2
    obtain ⟨g2, cg2, rfl, i2, b2⟩ := pair_ints h2
    have G2 := Lib.hid i2
    have L2 := Lib.hid (L1.out.next b2)
    have B2 := Lib.hid (Below.next B1.out (Nat.le_refl _) b2)
    clear h2 i2 b2 B1 L1
    go_wp2_with fail
    refine (specSelectRepeat_any n v al cl ls w2 L2.out).mono ?_
    unfold OptP
    rw [HO.out, ← HXb.out.1, ← HXb.out.2]
    intro e w3 h3
    obtain ⟨g3, cg3, rfl, i3, b3⟩ := pair_ints h3
    have G3 := Lib.hid i3
    have G2' := Lib.hid (G2.out.next b3)
    have L3 := Lib.hid (L2.out.next b3)
    have B3 := Lib.hid (Below.next B2.out (Nat.le_refl _) b3)
    clear h3 i3 b3 B2 G2 L2
    go_wp2_with fail
    refine (sameInts_any g2 g3 cg2 cg3 w3.heap.size w3.heap.size X X w3 G2'.out G3.out (by omega)).mono ?_
    rintro e w4 ⟨rfl, n4, rfl⟩
    have B4 := Lib.hid (below_drewN B3.out n4)
    have G4 := Lib.hid (G2'.out.drewN n4)
    have L4 := Lib.hid (L3.out.drewN n4)
    clear B3 G2' G3 L3
    generalize hw4 : w3.drewN n4 = w4 at B4 ⊢
    have hs4 : w3.heap.size = w4.heap.size := by rw [← hw4]; rfl
    rw [hw4, hs4] at G4 L4
    clear hw4 hs4
    have HAL := Lib.hid (aliveA_fromR B4.out)
    obtain ⟨m, hm⟩ : ∃ m, m = X.length := ⟨_, rfl⟩
    rw [← hm] at hol ⊢
    have HM := Lib.hid hm
    clear hm
    cases o with
    | none =>
      obtain rfl : b = false := HXb.out.2
      obtain rfl : m = 0 := by rw [HM.out, HXb.out.1]; rfl
      clear z2
      go_wp2_with (go_at_call 17; (with_reducible refine HAL.out.mono ?_); rintro e w5 ⟨rfl, h5⟩)
      go_ret
      exact ⟨rfl, h5⟩
    | some L =>
      obtain rfl : b = true := HXb.out.2
      obtain rfl : X = L := HXb.out.1
      obtain ⟨N, V, rfl, rfl, hN, hV1, hV8, hok, hr⟩ := srO_case HO.out
      obtain ⟨hmem, hlast, hcount⟩ := srRun_facts hV1 (srAt_zero N) hr
      rw [dn_none (fun _ _ => rfl), Nat.zero_add] at hcount
      by_cases hN0 : N = 0
      · obtain rfl : m = 0 := by
          rw [HM.out, List.length_eq_zero_iff]
          cases X with
          | nil => rfl
          | cons x xs => have := hmem x (by simp); omega
        have z3 : ((N : Int) == 0) = true := by simp [hN0]
        clear z2 hN0 hmem hlast hcount hr hok
        go_wp2_with (go_at_call 17; (with_reducible refine HAL.out.mono ?_); rintro e w5 ⟨rfl, h5⟩)
        go_ret
        exact ⟨rfl, h5⟩
      · have z3 : ((N : Int) == 0) = false := by rw [beq_eq_false_iff_ne]; omega
        have hN0' : ¬ (N : Int) = 0 := by omega
        have HMem := Lib.hid (fun k (hk : k < m) => show ∃ q : Nat, el X k = (q : Int) ∧ q < N from by
          have := hmem (el X k) (el_mem (by rw [← HM.out]; exact hk))
          exact ⟨(el X k).toNat, by omega, by omega⟩)
        have HAll := Lib.hid (fun k (hk : k < N) => show lstD ls X m k = true by
          unfold lstD; rw [HM.out, List.take_length]; exact hlast k hk)
        have HCount := Lib.hid (show N + gone (bt ls) 0 m = m by rw [HM.out]; exact hcount)
        have hmk := makeB N (by omega)
        have HR0 := Lib.hid ((World.rowIs_made w4 (.bool false) N 4).congr (g := fun j => .bool (lstD ls X 0 j)) fun i _ => rfl)
        have HB0 := Lib.hid (alloc_belowX w4 (.cells (madeCells #[.bool false] N) 4))
        clear z2 hN0 hmem hlast hcount hr hok
        go_wp2
        clear hmk z3 hN0'
        generalize w4.alloc (.cells (madeCells #[.bool false] N) 4) = wy at HR0 HB0 ⊢
        generalize hsb : w4.heap.size = sb at HR0 ⊢
        have HSB := Lib.hid hsb
        clear hsb
        go_loopw [10, 12] (fun g i wr => ∃ k q : Nat, k ≤ m ∧ i = .int .i64 (k : Int) ∧ g = .int .i64 (q : Int) ∧ q = gone (bt ls) 0 k ∧ wr.rowIs sb 4 N (fun j => .bool (lstD ls X k j)) ∧ Below w4.heap.size w4 wr) (fun _ i _ => m - (intOf i).toNat)
        case atStart => exact ⟨0, 0, Nat.zero_le _, rfl, rfl, rfl, HR0.out, HB0.out⟩
        case round =>
          obtain ⟨k, q, hk, rfl, rfl, hqg, hrow, hbl⟩ := hrel
          have HR := Lib.hid hrow
          have HB := Lib.hid hbl
          have hqk : q ≤ k := by rw [hqg]; exact gone_le _ _
          have HQ := Lib.hid hqg
          have HGn := Lib.hid (gone_next (bt ls) k)
          rw [← hqg] at HGn
          clear hrow hbl HR0 HB0 hqg
          by_cases hlt : k < m
          · obtain ⟨x, hx, hxN⟩ := HMem.out k hlt
            obtain ⟨bb, off, e1, hb', hc'⟩ := (G4.out.below HB.out).at_ (i := k) (by rw [← HM.out]; exact hlt)
            subst e1
            rw [hx] at hc'
            have hx0 : ¬ (x : Int) < 0 := by omega
            have hxn : ¬ (N : Int) ≤ (x : Int) := by omega
            have hxI : (x : Int) < (N : Int) := by omega
            have ck := World.rowIs.cell HR.out hxN
            have fk := World.rowIs.frozen HR.out x
            have HNx := Lib.hid (fun j => lstD_next (ls := ls) (X := X) (k := k) (j := j) (q := x) (by rw [← HM.out]; exact hlt) hx)
            have HS := Lib.hid ((World.rowIs.set HR.out x (.bool (!bt ls k))).congr (g := fun j => .bool (lstD ls X (k + 1) j)) fun i _ => by
              rw [HNx.out i]
              by_cases e : i = x
              · rw [if_pos e, if_pos e]
              · rw [if_neg e, if_neg e])
            have HB2 := Lib.hid (HB.out.setCell (p := ⟨sb, x, none⟩) (by rw [HSB.out]; exact Nat.le_refl _) (.bool (!bt ls k)))
            clear hx
            by_cases hkl : k < ls.length
            · have hklI : (k : Int) < (ls.length : Int) := by omega
              obtain ⟨b2, o2, e2, hb2, hc2⟩ := (L4.out.below HB.out).at_ hkl
              subst e2
              cases hbt : bt ls k
              · rw [hbt] at hc2 HGn HS HB2
                clear hbt
                go_wp2
                go_roundw
                case rel => exact ⟨k + 1, q, by omega, by go_num, rfl, by rw [HGn.out]; simp, HS.out, HB2.out⟩
                case measure => simp [intOf]; omega
              · rw [hbt] at hc2 HGn HS HB2
                clear hbt
                go_wp2
                go_roundw
                case rel => exact ⟨k + 1, q + 1, by omega, by go_num, by go_num, by rw [HGn.out]; simp, HS.out, HB2.out⟩
                case measure => simp [intOf]; omega
            · have hklI : ¬ (k : Int) < (ls.length : Int) := by omega
              rw [bt_ge hkl] at HGn HS HB2
              go_wp2
              go_roundw
              case rel => exact ⟨k + 1, q, by omega, by go_num, rfl, by rw [HGn.out]; simp, HS.out, HB2.out⟩
              case measure => simp [intOf]; omega
          · obtain rfl : m = k := by omega
            have HBe := Lib.hid (Below.next B4.out (Nat.le_refl _) HB.out)
            have e3 : (N : Int) + (q : Int) = (m : Int) := by have h8 := HCount.out; have h9 := HQ.out; omega
            have w3 : -1000000000000 ≤ (m : Int) ∧ (m : Int) ≤ 1000000000000 := by omega
            have E3 := Lib.hid e3
            have W3 := Lib.hid w3
            clear G4 L4 B4 HAL e3 w3
            generalize wr = wz at HR HBe ⊢
            go_wp2
            go_loop [14] (fun i => ∃ k : Nat, k ≤ N ∧ i = .int .i64 (k : Int)) (fun i => N - (intOf i).toNat)
            case atStart => exact ⟨0, Nat.zero_le _, rfl⟩
            case round =>
              obtain ⟨j, hj, rfl⟩ := hrel
              by_cases hjN : j < N
              · have ck := World.rowIs.cell HR.out hjN
                rw [HAll.out j hjN] at ck
                have hjI : (j : Int) < (N : Int) := by omega
                go_wp2
                go_round
                case rel => exact ⟨j + 1, by omega, by go_num⟩
                case measure => simp [intOf]; omega
              · obtain rfl : N = j := by omega
                have e3 := E3.out
                have r3 := wrapW W3.out
                have r3' := wrapW' W3.out
                have z9 : ((m : Int) == (m : Int)) = true := by simp
                go_wp2
                go_ret
                exact ⟨ret_bool (by simp), HBe.out⟩
  · go_enter Try.func8, Try.ntmps8
    have hl' : (1048576 : Int) < (ds.length : Int) := by omega
    go_wp2
    go_ret
    exact ⟨rfl, Below.refl _ _⟩
end Go.Proofs.Ytenihedpbklmlaa
