/-
  What SlotSuccess and its model answer. Condition: a list that can be read.
-/
import Derived.Test.YtbjmkbajabbogaaAcc1
import Derived.Test.YtbjmkbajabbogaaOne
namespace Go.Proofs.Ytbjmkbajabbogaa
open Go.RowKit

/-- How many of the first n senders have a slot. -/
def cntN (xs : List Int) (v : Int) : Nat → Nat
  | 0 => 0
  | n + 1 => cntN xs v n + (if el xs n = v then 1 else 0)
theorem cntN_next (xs : List Int) (v : Int) (n : Nat) : cntN xs v (n + 1) = cntN xs v n + (if el xs n = v then 1 else 0) := rfl
theorem cntN_le (xs : List Int) (v : Int) : ∀ n, cntN xs v n ≤ n
  | 0 => Nat.le_refl _
  | n + 1 => by have := cntN_le xs v n; unfold cntN; split <;> omega
theorem cntN_alone (xs : List Int) (k : Nat) : ∀ n, (k < n → (0 < cntN xs (el xs k) n ∧ (cntN xs (el xs k) n = 1 ↔ aloneN xs k n = true))) ∧ (n ≤ k → (cntN xs (el xs k) n = 0 ↔ aloneN xs k n = true))
  | 0 => ⟨fun h => absurd h (by omega), fun _ => by simp [cntN, aloneN]⟩
  | n + 1 => by
    obtain ⟨h1, h2⟩ := cntN_alone xs k n
    unfold cntN aloneN
    refine ⟨fun hk => ?_, fun hk => ?_⟩
    · by_cases e : n = k
      · subst e
        have h3 := h2 (Nat.le_refl _)
        simp only [if_true, decide_true, Bool.true_or, Bool.and_true]
        exact ⟨by omega, by rw [← h3]; omega⟩
      · obtain ⟨h3, h4⟩ := h1 (by omega)
        by_cases e2 : el xs n = el xs k
        · rw [if_pos e2]
          simp only [e, e2, decide_false, Bool.false_or, ne_eq, not_true_eq_false, Bool.and_false]
          exact ⟨by omega, ⟨fun h => by omega, fun h => by simp at h⟩⟩
        · rw [if_neg e2]
          simp only [e, e2, decide_false, Bool.false_or, ne_eq, not_false_eq_true, decide_true, Bool.and_true, Nat.add_zero]
          exact ⟨h3, h4⟩
    · have h3 := h2 (by omega)
      have e : ¬ n = k := by omega
      by_cases e2 : el xs n = el xs k
      · rw [if_pos e2]
        simp only [e, e2, decide_false, Bool.false_or, ne_eq, not_true_eq_false, Bool.and_false]
        exact ⟨fun h => by omega, fun h => by simp at h⟩
      · rw [if_neg e2]
        simp only [e, e2, decide_false, Bool.false_or, ne_eq, not_false_eq_true, decide_true, Bool.and_true, Nat.add_zero]
        exact h3
/-- The array of counts after the first k senders. -/
def CntA (W : World) (b : Nat) (xs : List Int) (k : Nat) : Prop := W.rowIs b 41 400 (fun j => .int .i64 (cntN xs j k : Nat))
section
variable {W W' : World} {b k : Nat} {xs : List Int}
theorem CntA.lt (h : CntA W b xs k) : b < W.heap.size := World.rowIs.lt h
theorem CntA.next {B : Nat} (h : CntA W b xs k) (hb : Below B W W') (hB : b < B) : CntA W' b xs k := World.rowIs.of_block h (hb.block b hB)
theorem CntA.cell (h : CntA W b xs k) {v : Nat} (hv : v < 400) : W.cell? ⟨b, v, none⟩ = some (.int .i64 (cntN xs v k : Nat)) := World.rowIs.cell h hv
theorem CntA.frozen (h : CntA W b xs k) (v : Nat) : W.frozen? ⟨b, v, none⟩ = false := World.rowIs.frozen h v
theorem CntA.set (h : CntA W b xs k) {v : Nat} (hv : el xs k = v) (n : Int) (hn : n = (cntN xs v k : Nat) + 1) : CntA (W.setCell ⟨b, v, none⟩ (.int .i64 n)) b xs (k + 1) := by
  refine (World.rowIs.set h v (.int .i64 n)).congr fun j hj => ?_
  rw [cntN_next]
  by_cases e : j = v
  · subst e
    rw [if_pos rfl, if_pos hv, hn]; rfl
  · rw [if_neg e, if_neg (by rw [hv]; omega)]; rfl
end
theorem cntA_new (w : World) (xs : List Int) : CntA (w.alloc (.cells (Array.replicate 400 (.int .i64 0)) 41)) w.heap.size xs 0 := by
  refine ⟨Array.replicate 400 (.int .i64 0), heap_alloc_last _ _, by simp, fun i hi => ?_⟩
  simp [hi, cntN]
theorem ssN_snoc (xs : List Int) (n m : Nat) : ssN xs n (m + 1) = if aloneN xs m n then ssN xs n m ++ [(m : Int)] else ssN xs n m := rfl
theorem ssOr_no {xs : List Int} (h : ssOk xs = false) : ssOr xs = [] := by simp [ssOr, h]
theorem ssOr_yes {xs : List Int} (h : ssOk xs = true) : ssOr xs = ssN xs xs.length xs.length := by simp [ssOr, h]
theorem alloc_belowA (w : World) (o : Obj) : Below w.heap.size w (w.alloc o) := (Below.refl _ _).alloc (Nat.le_refl _) o
set_option maxRecDepth 10000 in
set_option maxHeartbeats 4000000 in
theorem slotSuccess_any (a : Option Addr) (c : Nat) (xs : List Int) (w : World) (hx : Ints .i64 w w.heap.size a xs) :
    Calls Try.prog 13 #[.slice a xs.length c] w (ListPostC (ssOr xs) w) := by
  have HX := Lib.hid hx
  cases hok : ssOk xs
  · have HI := Lib.hid (sendersValid_is a c _ xs 399 false w hx (by rw [svOk_ss]; exact hok))
    rw [ssOr_no hok]
    clear hx hok
    go_enter Try.func13, Try.ntmps13
    go_wp2_with (go_at_call 33; (with_reducible refine HI.out.mono ?_); rintro e w2 ⟨rfl, rfl⟩)
    go_ret
    exact listPostC_grow (Grow.nil _ _ _ _) (Below.refl _ _)
  · have HI := Lib.hid (sendersValid_is a c _ xs 399 true w hx (by rw [svOk_ss]; exact hok))
    have HV := Lib.hid ((svOk_iff 399 xs).1 (by rw [svOk_ss]; exact hok))
    rw [ssOr_yes hok]
    have hz : ∀ w, (zeroValue 41).run Try.prog w = .ok (.agg (Array.replicate 400 (.int .i64 0))) w := fun _ => by kernel_rfl
    have HC := Lib.hid (cntA_new w xs)
    have HB := Lib.hid (alloc_belowA w (.cells (Array.replicate 400 (.int .i64 0)) 41))
    clear hx hok
    go_enter Try.func13, Try.ntmps13
    go_wp2_with (go_at_call 33; (with_reducible refine HI.out.mono ?_); rintro e w2 ⟨rfl, rfl⟩)
    clear hz
    generalize w.alloc (.cells (Array.replicate 400 (.int .i64 0)) 41) = u at HC HB ⊢
    go_loopw [14] (fun i wr => ∃ k : Nat, k ≤ xs.length ∧ i = .int .i64 k ∧ CntA wr w.heap.size xs k ∧ Below w.heap.size w wr) (fun i _ => xs.length - (intOf i).toNat)
    case atStart => exact ⟨0, Nat.zero_le _, rfl, HC.out, HB.out⟩
    case round =>
      obtain ⟨k, hk, rfl, hcn, hbl⟩ := hrel
      have HN := Lib.hid hcn
      have HL := Lib.hid hbl
      have h8 := HV.out.1
      clear hcn hbl
      by_cases hlt : k < xs.length
      · obtain ⟨b, off, rfl, hb, hc⟩ := (HX.out.below HL.out).at_ hlt
        obtain ⟨v, hv⟩ : ∃ v : Nat, el xs k = v := ⟨(el xs k).toNat, by have := HV.out.2 k hlt; omega⟩
        have hv4 : v < 400 := by have := HV.out.2 k hlt; omega
        rw [hv] at hc
        have c0 := HN.out.cell hv4
        have f0 := HN.out.frozen v
        obtain ⟨n, hn⟩ : ∃ n, n = cntN xs v k := ⟨_, rfl⟩
        have hn8 : n ≤ 8 := by have := cntN_le xs v k; omega
        have HS := HN.out.set hv ((n : Int) + 1) (by rw [hn])
        rw [← hn] at c0
        have HS' := Lib.hid HS
        have hv4' : (v : Int) < 400 := by omega
        have r1 := wrapW (n := (n : Int) + 1) (by omega)
        have r1' := wrapW' (n := (n : Int) + 1) (by omega)
        clear HS hn hv
        go_wp2
        go_roundw
        case rel => exact ⟨k + 1, by omega, by go_num, HS'.out, HL.out.setCell (Nat.le_refl _) _⟩
        case measure => simp [intOf]; omega
      · obtain rfl : xs.length = k := by omega
        generalize wr = u1 at HN HL ⊢
        go_wp2
        have hszr : w.heap.size < u1.heap.size := HN.out.lt
        go_loopw [6, 26] (fun o i ws => ∃ (k n cap : Nat) (ad : Option Addr), k ≤ xs.length ∧ i = .int .i64 k ∧ o = .slice ad n cap ∧ n ≤ k ∧ Grow .i64 3 ws u1.heap.size ad n cap (ssN xs xs.length k) ∧ Below u1.heap.size u1 ws) (fun _ i _ => xs.length - (intOf i).toNat)
        case atStart => exact ⟨0, 0, 0, none, Nat.zero_le _, rfl, rfl, Nat.le_refl _, Grow.nil _ _ _ _, Below.refl _ _⟩
        case round =>
          obtain ⟨k, n, cap, ad, hk, rfl, rfl, hnk, hgr, hbr⟩ := hrel
          have HG := Lib.hid hgr
          have HR := Lib.hid hbr
          have hsz : u1.heap.size ≤ wr.heap.size := hbr.size
          clear hgr hbr
          by_cases hlt : k < xs.length
          · obtain ⟨b, off, rfl, hb, hc⟩ := ((HX.out.below HL.out).below (HR.out.mono (Nat.le_of_lt hszr))).at_ hlt
            obtain ⟨v, hv⟩ : ∃ v : Nat, el xs k = v := ⟨(el xs k).toNat, by have := HV.out.2 k hlt; omega⟩
            have hv4 : v < 400 := by have := HV.out.2 k hlt; omega
            have hal := ((cntN_alone xs k xs.length).1 hlt).2
            rw [hv] at hc hal
            have c0 := (HN.out.next HR.out hszr).cell hv4
            obtain ⟨q, hq⟩ : ∃ q, q = cntN xs v xs.length := ⟨_, rfl⟩
            rw [← hq] at c0 hal
            have hv4' : (v : Int) < 400 := by omega
            have HSN := Lib.hid (ssN_snoc xs xs.length k)
            by_cases hq1 : q = 1
            · have HE := Lib.hid (hal.1 hq1)
              have z1 : ((q : Int) == 1) = true := by simp [hq1]
              clear hal hq hv hq1
              go_wp2_with (at_builtin; refine wpList_append1 (.tmp 35) (.tmp 37) u1.heap.size ad n cap (ssN xs xs.length k) ⟨wr.heap.size, 0, none⟩ (k : Int) rfl rfl rfl rfl (HG.out.alloc _) (by simp) (by omega) (by simp; omega) ?_; intro a2 cap2 w6 hg2 hb2; have HG2 := Lib.hid hg2; have HB2 := Lib.hid (HR.out.trans ((Below.alloc (Below.refl _ _) (Nat.le_refl _) _).mono hsz |>.trans hb2)); clear hg2 hb2)
              go_roundw
              case rel => exact ⟨k + 1, n + 1, cap2, a2, by omega, by go_num, rfl, by omega, by rw [HSN.out, HE.out, if_pos rfl]; exact HG2.out, HB2.out⟩
              case measure => simp [intOf]; omega
            · have HE := Lib.hid (show aloneN xs k xs.length = false by rw [Bool.eq_false_iff]; exact fun h => hq1 (hal.2 h))
              have z1 : ((q : Int) == 1) = false := by simp; omega
              clear hal hq hv hq1
              go_wp2
              go_roundw
              case rel => exact ⟨k + 1, n, cap, ad, by omega, by go_num, rfl, by omega, by rw [HSN.out, HE.out]; exact HG.out, HR.out⟩
              case measure => simp [intOf]; omega
          · obtain rfl : xs.length = k := by omega
            go_wp2
            go_ret
            exact listPostC_grow (HG.out.base_le (Nat.le_of_lt hszr)) (HL.out.trans (HR.out.mono (Nat.le_of_lt hszr)))
theorem ssOr_len {xs : List Int} : (ssOr xs).length ≤ xs.length := by
  cases h : ssOk xs
  · rw [ssOr_no h]; exact Nat.zero_le _
  · rw [ssOr_yes h]; exact ssN_len _ _ _
theorem ssOr_length (xs : List Int) : (ssOr xs).length ≤ 1048576 := by
  cases h : ssOk xs
  · rw [ssOr_no h]; exact Nat.zero_le _
  · rw [ssOr_yes h]
    have h1 := ssN_len xs xs.length xs.length
    have h2 : xs.length ≤ 8 := ((svOk_iff 399 xs).1 (by rw [svOk_ss]; exact h)).1
    omega
theorem aloneN_next (xs : List Int) (k j : Nat) : aloneN xs k (j + 1) = (aloneN xs k j && (decide (j = k) || decide (el xs j ≠ el xs k))) := rfl
set_option maxRecDepth 10000 in
set_option maxHeartbeats 4000000 in
theorem specSlotSuccess_any (a : Option Addr) (c : Nat) (xs : List Int) (w : World) (hx : Ints .i64 w w.heap.size a xs) :
    Calls Try.prog 15 #[.slice a xs.length c] w (ListPostC (ssOr xs) w) := by
  have HX := Lib.hid hx
  have HG0 := Lib.hid (Grow.lit0 .i64 3 w w.heap.size (Nat.le_refl _))
  have HB0 := Lib.hid (alloc_belowA w (.cells #[] 3))
  clear hx
  by_cases hl : xs.length ≤ 8
  · have hl' : ¬ (8 : Int) < (xs.length : Int) := by omega
    have HL8 := Lib.hid hl
    clear hl
    go_enter Try.func15, Try.ntmps15
    go_wp2
    clear hl'
    generalize w.alloc (.cells #[] 3) = u1 at HG0 HB0 ⊢
    go_loopw [3, 4] (fun o i wr => ∃ (k n cap : Nat) (ad : Option Addr), k ≤ xs.length ∧ i = .int .i64 k ∧ o = .slice ad n cap ∧ n ≤ k ∧ Grow .i64 3 wr w.heap.size ad n cap (ssN xs xs.length k) ∧ svTo 399 xs k ∧ Below w.heap.size w wr) (fun _ i _ => xs.length - (intOf i).toNat)
    case atStart => exact ⟨0, 0, 0, _, Nat.zero_le _, rfl, rfl, Nat.le_refl _, HG0.out, fun i hi => absurd hi (by omega), HB0.out⟩
    case round =>
      obtain ⟨k, n, cap, ad, hk, rfl, rfl, hnk, hgr, hsv, hbr⟩ := hrel
      have HG := Lib.hid hgr
      have HR := Lib.hid hbr
      have HSV := Lib.hid hsv
      have hsz : w.heap.size ≤ wr.heap.size := hbr.size
      have h8 := HL8.out
      clear hgr hbr hsv
      by_cases hlt : k < xs.length
      · obtain ⟨b, off, e1, hb, hcs⟩ := (HX.out.below HR.out) (by intro e; rw [e] at hlt; simp at hlt)
        subst e1
        have HCS := Lib.hid hcs
        have hc := hcs k hlt
        clear hcs
        by_cases hin : 0 ≤ el xs k ∧ el xs k ≤ 399
        · have HI := Lib.hid (fun W => betwS_is (el xs k) 0 399 true W (decide_eq_true hin))
          have HSV2 := Lib.hid (svTo_next HSV.out hin)
          obtain ⟨x, hx⟩ : ∃ x, x = el xs k := ⟨_, rfl⟩
          rw [← hx] at hc HI
          have HXX := Lib.hid hx
          clear hin hx
          go_wp2_with (go_at_call 34; ((with_reducible refine (HI.out _).mono ?_); rintro e w1 ⟨rfl, rfl⟩))
          generalize wr = u2 at HG HR HCS hc hsz ⊢
          go_loopw [5, 6] (fun al j ws => ∃ (i m : Nat), i ≤ xs.length ∧ al = .bool (aloneN xs k i) ∧ j = .int .i64 i ∧ ws = u2.drewN m) (fun _ j _ => xs.length - (intOf j).toNat)
          case atStart => exact ⟨0, 0, Nat.zero_le _, rfl, rfl, rfl⟩
          case round =>
            obtain ⟨i, m, hi, rfl, rfl, rfl⟩ := hrel
            obtain ⟨A, hA⟩ : ∃ A, A = aloneN xs k i := ⟨_, rfl⟩
            have HA := Lib.hid hA
            have HNX := Lib.hid (aloneN_next xs k i)
            have hc' : (u2.drewN m).cell? ⟨b, off + k, none⟩ = some (.int .i64 x) := hc
            rw [← hA]
            clear hA
            by_cases hli : i < xs.length
            · have hd : (u2.drewN m).cell? ⟨b, off + i, none⟩ = some (.int .i64 (el xs i)) := HCS.out i hli
              obtain ⟨y, hy⟩ : ∃ y, y = el xs i := ⟨_, rfl⟩
              rw [← hy] at hd
              have hd0 : u2.cell? ⟨b, off + i, none⟩ = some (.int .i64 y) := hd
              have hli' : (i : Int) < (xs.length : Int) := by omega
              have hlt' : (k : Int) < (xs.length : Int) := by omega
              have HYY := Lib.hid hy
              clear hy
              cases A
              · go_wp2
                go_quiet (fail)
                go_wp2
                go_roundw
                case rel => exact ⟨i + 1, _, by omega, by rw [HNX.out, ← HA.out]; rfl, by go_num, rfl⟩
                case measure => simp [intOf]; omega
              · by_cases hik : i = k
                · have z1 : ((i : Int) == (k : Int)) = true := by simp [hik]
                  have HE := Lib.hid hik
                  have hik' : (i : Int) = (k : Int) := by omega
                  clear hik
                  go_wp2
                  go_quiet (fail)
                  go_wp2
                  go_roundw
                  case rel => exact ⟨i + 1, _, by omega, by rw [HNX.out, ← HA.out]; simp [HE.out], by go_num, rfl⟩
                  case measure => simp [intOf]; omega
                · have z1 : ((i : Int) == (k : Int)) = false := by simp; omega
                  have hik' : ¬ (i : Int) = (k : Int) := by omega
                  by_cases hyx : y = x
                  · have z2 : (y != x) = false := by simp [hyx]
                    have HE := Lib.hid hyx
                    go_wp2
                    go_quiet (fail)
                    go_wp2
                    go_roundw
                    case rel => exact ⟨i + 1, _, by omega, by rw [HNX.out, ← HA.out]; simp [hik, ← HYY.out, ← HXX.out, HE.out], by go_num, rfl⟩
                    case measure => simp [intOf]; omega
                  · have z2 : (y != x) = true := by simp [hyx]
                    go_wp2
                    go_quiet (fail)
                    go_wp2
                    go_roundw
                    case rel => exact ⟨i + 1, _, by omega, by rw [HNX.out, ← HA.out]; simp [hik, ← HYY.out, ← HXX.out, hyx], by go_num, rfl⟩
                    case measure => simp [intOf]; omega
            · obtain rfl : xs.length = i := by omega
              have HSN := Lib.hid (ssN_snoc xs xs.length k)
              rw [← HA.out] at HSN
              have HG2 := Lib.hid (HG.out.drewN m)
              have HR2 := Lib.hid (below_drewN HR.out m)
              have hsz2 : w.heap.size ≤ (u2.drewN m).heap.size := hsz
              clear hc hc'
              generalize u2.drewN m = u3 at HG2 HR2 hsz2 ⊢
              cases A
              · go_wp2
                go_roundw
                case rel => exact ⟨k + 1, n, cap, ad, by omega, by go_num, rfl, by omega, by rw [HSN.out]; exact HG2.out, HSV2.out, HR2.out⟩
                case measure => simp [intOf]; omega
              · go_wp2_with (at_builtin; refine wpList_append1 (.tmp 49) (.tmp 51) w.heap.size ad n cap (ssN xs xs.length k) ⟨u3.heap.size, 0, none⟩ (k : Int) rfl rfl rfl rfl (HG2.out.alloc _) (by simp) (by omega) (by simp; omega) ?_; intro a2 cap2 w6 hg2 hb2; have HG3 := Lib.hid hg2; have HB3 := Lib.hid (HR2.out.trans ((Below.alloc (Below.refl _ _) (Nat.le_refl _) _).mono hsz2 |>.trans hb2)); clear hg2 hb2)
                go_roundw
                case rel => exact ⟨k + 1, n + 1, cap2, a2, by omega, by go_num, rfl, by omega, by rw [HSN.out, if_pos rfl]; exact HG3.out, HSV2.out, HB3.out⟩
                case measure => simp [intOf]; omega
        · have HI := Lib.hid (fun W => betwS_is (el xs k) 0 399 false W (decide_eq_false hin))
          have HE := Lib.hid (ssOr_no (xs := xs) (by rw [← svOk_ss]; exact svOk_no fun h' => hin (h'.2 k hlt)))
          have HF := Lib.hid (HR.out.alloc hsz (.cells #[] 3))
          have HG9 := Lib.hid (Grow.lit0 .i64 3 wr w.heap.size hsz)
          clear hin
          go_wp2_with (go_at_call 34; ((with_reducible refine (HI.out _).mono ?_); rintro e w1 ⟨rfl, rfl⟩))
          go_ret
          rw [HE.out]
          exact listPostC_grow HG9.out HF.out
      · obtain rfl : xs.length = k := by omega
        have HE := Lib.hid (ssOr_yes (xs := xs) (by rw [← svOk_ss]; exact (svOk_iff 399 xs).2 ⟨HL8.out, HSV.out⟩))
        go_wp2
        go_ret
        rw [HE.out]
        exact listPostC_grow HG.out HR.out
  · have HE := Lib.hid (ssOr_no (xs := xs) (by rw [← svOk_ss]; exact svOk_no fun h' => hl h'.1))
    have hl' : (8 : Int) < (xs.length : Int) := by omega
    clear hl
    go_enter Try.func15, Try.ntmps15
    go_wp2
    go_ret
    rw [HE.out]
    exact listPostC_grow HG0.out HB0.out
end Go.Proofs.Ytbjmkbajabbogaa
