/-
  What the models of DespreadSums and DespreadBits answer, for all arguments. Condition: the list can be read.
-/
import Derived.Test.YtnnknfpkbhcghaaWs7
import Derived.Deep.DeepAppendRoom
import Derived.ArgAppend
namespace Go.Proofs.Ytnnknfpkbhcghaa
open Go.RowKit

theorem l12Sign_q (k j : Nat) (w : World) (hk : k < 8) (hj : j < 8) : Calls Try.prog 41 #[.int .i64 k, .int .i64 j] w fun e w' => e = .returned (.int .i64 (sg k j)) ∧ ∃ m, w' = w.drewN m :=
  (l12Sign_is k j w hk hj).mono fun _ _ h => ⟨h.1, 0, h.2.symm⟩
/-- A partial sum of chips. -/
def dsT (xs : List Int) (k i j : Nat) : Int := sqS (fun t => el xs (8 * i + t) * sg k t) j
theorem dsT_next (xs : List Int) (k i j : Nat) : dsT xs k i (j + 1) = dsT xs k i j + el xs (8 * i + j) * sg k j := rfl
theorem dsT_done (xs : List Int) (k i : Nat) : dsT xs k i 8 = dsS xs k i := rfl
theorem sg_mul {x s : Int} (hx : -8000 ≤ x ∧ x ≤ 8000) (hs : s = 1 ∨ s = -1) : -8000 ≤ x * s ∧ x * s ≤ 8000 := by
  rcases hs with rfl | rfl <;> omega
theorem dsT_in {xs : List Int} {k i j : Nat} (h : chTo 8000 xs (8 * i + j)) : -(8000 * (j : Int)) ≤ dsT xs k i j ∧ dsT xs k i j ≤ 8000 * (j : Int) := by
  have := sqS_bound (f := fun t => el xs (8 * i + t) * sg k t) (M := 8000) (n := j) fun t ht => sg_mul (h (8 * i + t) (by omega)) (sg_pm k t)
  unfold dsT
  omega
set_option maxHeartbeats 4000000 in
theorem specDespreadSums_any (a : Option Addr) (c : Nat) (xs : List Int) (k : Int) (w : World) (hx : Ints .i64 w w.heap.size a xs) (_hl : xs.length ≤ maxLen) :
    Calls Try.prog 28 #[.slice a xs.length c, .int .i64 k] w (ListPostC (dsOr xs k) w) := by
  have HB0 := Lib.hid (alloc_belowX w (.cells #[] 3))
  have HX := Lib.hid hx
  have HN0 := Lib.hid ((newW_lit0' w w (Below.refl _ _)).post)
  clear hx
  obtain ⟨r, hr⟩ : ∃ r, r = xs.length % 8 := ⟨_, rfl⟩
  have et : (xs.length : Int).tmod 8 = (r : Int) := by rw [Int.tmod_eq_emod_of_nonneg (by omega), hr]; rfl
  by_cases hr0 : r = 0
  · have z : ((r : Int) != 0) = false := by rw [bne_eq_false_iff_eq]; omega
    by_cases hl : xs.length ≤ 256
    · have hl' : ¬ (256 : Int) < (xs.length : Int) := by omega
      cases hk : kOk k
      · have H1 := Lib.hid (fun W => l1In_k k false W hk)
        have HE := Lib.hid (dsOr_no (xs := xs) (k := k) fun h => kOk_no hk ⟨h.2.2.1, h.2.2.2.1⟩)
        clear hk hl hr hr0
        go_enter Try.func28, Try.ntmps28
        go_wp2_with (go_at_call 40; ((with_reducible refine (H1.out _).mono ?_); rintro e w1 ⟨rfl, rfl⟩))
        go_ret
        rw [HE.out]
        exact HN0.out
      · have H1 := Lib.hid (fun W => l1In_k k true W hk)
        obtain ⟨K, hK, rfl⟩ := kOk_nat hk
        obtain ⟨N, hN⟩ : ∃ N, N = xs.length / 8 := ⟨_, rfl⟩
        have hN8 : xs.length = 8 * N := by omega
        have HBad := Lib.hid (fun h => dsOr_no (xs := xs) (k := (K : Int)) h)
        have HGood := Lib.hid (fun h => show dsOr xs (K : Int) = (List.range N).map (dsS xs K) by rw [dsOr_yes ⟨by omega, hl, by omega, by omega, h⟩, hN]; rfl)
        have HS := Lib.hid (fun (j : Nat) (hj : j < 8) W => l12Sign_q K j W hK hj)
        have HPm := Lib.hid (fun j => sg_pm K j)
        have HL := Lib.hid hN8
        have hN32 : N ≤ 32 := by omega
        clear hk hl hr hr0 hK hN hN8
        go_enter Try.func28, Try.ntmps28
        go_wp2_with (go_at_call 40; ((with_reducible refine (H1.out _).mono ?_); rintro e w1 ⟨rfl, rfl⟩))
        clear et z hl'
        go_loopw [5, 6] (fun s i wr => ∃ (q p : Nat) (v : Option Addr) (cap : Nat), (q ≤ N ∧ p = 8 * q) ∧ i = .int .i64 p ∧ s = .slice v q cap ∧ Grow .i64 3 wr w.heap.size v q cap ((List.range q).map (dsS xs K)) ∧ Below w.heap.size w wr ∧ chTo 8000 xs (8 * q)) (fun _ i _ => xs.length - (intOf i).toNat)
        case atStart => exact ⟨0, 0, _, _, ⟨Nat.zero_le _, rfl⟩, rfl, rfl, Grow.lit0 _ _ _ _ (Nat.le_refl _), HB0.out, fun i hi => absurd hi (by omega)⟩
        case round =>
          obtain ⟨q, p, v, cap, ⟨hq, hp⟩, rfl, rfl, hgr, hbel, hch⟩ := hrel
          have HG := Lib.hid hgr
          have HB := Lib.hid hbel
          have HC := Lib.hid hch
          have hsz : w.heap.size ≤ wr.heap.size := hbel.size
          have hq2 : q ≤ 32 := Nat.le_trans hq hN32
          have HP := Lib.hid hp
          have hp2 : p ≤ 256 := by omega
          clear hgr hbel hch hp
          by_cases hlt : q < N
          · have hlp : p < xs.length := by have := HL.out; have := HP.out; omega
            go_wp2
            rename World => V0
            go_loopw [7, 8] (fun n t wr => ∃ (j d : Nat), j ≤ 8 ∧ t = .int .i64 j ∧ n = .int .i64 (dsT xs K q j) ∧ wr = V0.drewN d ∧ chTo 8000 xs (8 * q + j)) (fun _ t _ => 8 - (intOf t).toNat)
            case atStart => exact ⟨0, 0, Nat.zero_le _, rfl, rfl, rfl, HC.out⟩
            case round =>
              obtain ⟨j, d, hj, rfl, rfl, hwr, hch⟩ := hrel
              have HC1 := Lib.hid hch
              have HW1 := Lib.hid hwr
              have B1 := Lib.hid (show Below w.heap.size w wr by rw [hwr]; exact below_drewN HB.out d)
              have G1 := Lib.hid (show Grow .i64 3 wr w.heap.size v q cap ((List.range q).map (dsS xs K)) by rw [hwr]; exact HG.out)
              clear hch hwr
              by_cases hlj : j < 8
              · obtain ⟨m, hm⟩ : ∃ m, m = p + j := ⟨_, rfl⟩
                have hmx : m < xs.length := by have := HL.out; have := HP.out; omega
                have hm8 : m = 8 * q + j := by have := HP.out; omega
                obtain ⟨b, off, rfl, hb, hc⟩ := (HX.out.below B1.out).at_ hmx
                have hc' := fun n : Nat => (show (wr.drewN n).cell? ⟨b, off + m, none⟩ = some (.int .i64 (el xs m)) from hc)
                have e1 : (p : Int) + (j : Int) = (m : Int) := by omega
                have hm257 : m ≤ 300 := by omega
                cases h1 : (decide (-8000 ≤ el xs m) && decide (el xs m ≤ 8000))
                · have H2 := Lib.hid (fun W => l1In_M (el xs m) 8000 false W h1)
                  have HE := Lib.hid (HBad.out fun h => by
                    have := chOk_in (by decide) h.2.2.2.2 m
                    simp [this.1, this.2] at h1)
                  have HN := Lib.hid ((newW_lit0' w wr B1.out).post)
                  clear h1 hb hm hm8
                  go_wp2_with (go_at_call 40; ((with_reducible refine (H2.out _).mono ?_); rintro e w1 ⟨rfl, rfl⟩))
                  go_ret
                  rw [HE.out]
                  exact HN.out
                · have H2 := Lib.hid (fun W => l1In_M (el xs m) 8000 true W h1)
                  have i1 : -8000 ≤ el xs m ∧ el xs m ≤ 8000 := by simpa using h1
                  have HC2 := Lib.hid (chTo_next HC1.out (by rw [← hm8]; exact i1))
                  have HSj := Lib.hid (HS.out j hlj)
                  have HT := Lib.hid (show dsT xs K q (j + 1) = dsT xs K q j + el xs m * sg K j by rw [dsT_next, hm8])
                  have i2 := sg_mul i1 (HPm.out j)
                  have i3 := dsT_in (k := K) HC1.out
                  obtain ⟨g, hg⟩ : ∃ g, g = el xs m * sg K j := ⟨_, rfl⟩
                  rw [← hg] at HT i2
                  generalize dsT xs K q j = n at *
                  have r2 : IntKind.i64.wrap (n + g) = n + g := wrapW (by omega)
                  have r2' : wrap64 (n + g) = n + g := wrapW' (by omega)
                  have r1 : IntKind.i64.wrap (el xs m * sg K j) = g := by rw [← hg]; exact wrapW (by omega)
                  have r1' : wrap64 (el xs m * sg K j) = g := by rw [← hg]; exact wrapW' (by omega)
                  generalize el xs m = x at *
                  generalize sg K j = s at *
                  clear h1 hb hm hm8 i1 i2 i3 hg
                  go_wp2_with (go_at_call 40; ((with_reducible refine (H2.out _).mono ?_); rintro e w1 ⟨rfl, rfl⟩))
                  go_quiet (first | (go_at_call 41; with_reducible exact Calls.quiet_of (HSj.out _)))
                  go_wp2
                  go_roundw
                  case rel => exact ⟨j + 1, _, by omega, by go_num, by rw [HT.out], by rw [HW1.out, World.drewN_drewN], HC2.out⟩
                  case measure => simp [intOf]; omega
              · obtain rfl : j = 8 := by omega
                have HT := Lib.hid (show (List.range (q + 1)).map (dsS xs K) = (List.range q).map (dsS xs K) ++ [dsT xs K q 8] by rw [map_one, dsT_done])
                have hsz1 : w.heap.size ≤ wr.heap.size := B1.out.size
                have HP8 := Lib.hid (show p + 8 = 8 * (q + 1) by have := HP.out; omega)
                generalize dsT xs K q 8 = n at *
                generalize (List.range q).map (dsS xs K) = zs at *
                go_wp2_with (at_builtin; refine wpList_append1 (.tmp 56) (.tmp 58) w.heap.size v q cap zs ⟨wr.heap.size, 0, none⟩ n rfl rfl rfl rfl (G1.out.alloc _) (by simp) (by omega) (by simp; omega) ?_; intro a3 cap3 w3 hg3 hb3; have HG3 := Lib.hid hg3; have HB3 := Lib.hid ((B1.out.alloc hsz1 _).trans hb3); clear hg3 hb3)
                go_roundw
                case rel => exact ⟨q + 1, p + 8, a3, cap3, ⟨by omega, HP8.out⟩, by go_num, rfl, by rw [HT.out]; exact HG3.out, HB3.out, HC1.out⟩
                case measure => simp [intOf]; omega
          · obtain rfl : N = q := by omega
            have hlp : ¬ (p : Int) < (xs.length : Int) := by have := HL.out; have := HP.out; omega
            have HE := Lib.hid (HGood.out (chOk_good (by rw [HL.out]; exact HC.out)))
            have HPo := Lib.hid (show ListPostC (dsOr xs (K : Int)) w (.returned (.slice v N cap)) wr by rw [HE.out]; exact listPostC_grow HG.out HB.out)
            go_wp2
            go_ret
            exact HPo.out
    · have hl' : (256 : Int) < (xs.length : Int) := by omega
      have HE := Lib.hid (dsOr_no (xs := xs) (k := k) fun h => hl h.2.1)
      clear hl hr hr0
      go_enter Try.func28, Try.ntmps28
      go_wp2
      go_ret
      rw [HE.out]
      exact HN0.out
  · have z : ((r : Int) != 0) = true := by rw [bne_iff_ne]; omega
    have HE := Lib.hid (dsOr_no (xs := xs) (k := k) fun h => hr0 (by rw [hr]; exact h.1))
    clear hr hr0
    go_enter Try.func28, Try.ntmps28
    go_wp2
    go_ret
    rw [HE.out]
    exact HN0.out
/-- One number appended to a slice in block g: it stays in g, or it lies in a new block; no other block changes. -/
theorem run_append_oneW (w : World) (ty : TypeId) (base g n cap : Nat) (xs : List Int) (ad : Addr) (v : Int)
    (hg : Grow .i64 3 w base (some ⟨g, 0, none⟩) n cap xs) (hc : w.cell? ad = some (.int .i64 v)) (hn : n < 1099511627776) (hb : base ≤ w.heap.size) :
    ∃ g' cap' w', (Builtin.append_ #[24, 24] ty #[.slice (some ⟨g, 0, none⟩) n cap, .slice (some ad) 1 1]).run Try.prog w = .ok (.slice (some ⟨g', 0, none⟩) (n + 1) cap') w' ∧
      (g' = g ∨ w.heap.size ≤ g') ∧ Grow .i64 3 w' base (some ⟨g', 0, none⟩) (n + 1) cap' (xs ++ [v]) ∧ w.grownBy w' (some g) := by
  obtain ⟨i0, hi0, hz0, hz1, hz2⟩ := info_parts Try.infoInt
  have hnews : ∀ j u, [Value.int .i64 v][j]? = some u → w.cell? (ad.add j) = some u := fun j u hj => by
    match j, hj with
    | 0, hj => simp at hj; subst hj; simpa [Addr.add] using hc
  have hmap : (xs ++ [v]).map (Value.int .i64) = xs.map (Value.int .i64) ++ [Value.int .i64 v] := by simp
  by_cases hroom : n + 1 ≤ cap
  · obtain ⟨w', hr, h2, h3⟩ := run_append_own_spare (P := Try.prog) w base 24 ty 3 i0 1 Try.underlying24 hi0 hz1 g n cap (xs.map (Value.int .i64)) hg ad 1 1 [.int .i64 v] rfl hnews (by simp [Value.oneCell']) hroom
    refine ⟨g, cap, w', hr, .inl rfl, ?_, h3⟩
    unfold Grow; rw [hmap]; exact h2
  · have hbo : ∀ j u, (xs.map (Value.int .i64))[j]? = some u → w.cell? ((⟨g, 0, none⟩ : Addr).add j) = some u := World.ownsRow.cells hg rfl
    obtain ⟨v', w', hr, h2, h3⟩ := run_append_arg_grows (P := Try.prog) w 24 ty 3 i0 (.int .i64 0) 1 8 Try.underlying24 hi0 hz0 hz1 hz2 rfl (by omega) ⟨g, 0, none⟩ n cap (xs.map (Value.int .i64)) (by have := hg.len; simp [this]) hbo ad 1 1 [.int .i64 v] rfl hnews (by omega) (by unfold maxLen; omega) (by omega)
    have h4 : w.grownBy w' (some g) := ⟨h3.os, h3.tape, h3.output, h3.size, fun k hk _ => h3.block k hk (by simp)⟩
    rcases h2.2 with ⟨_, h0⟩ | ⟨g', c', cur, e, hbg, rest⟩
    · omega
    · subst e
      refine ⟨g', c', w', hr, .inr hbg, ?_, h4⟩
      unfold Grow; rw [hmap]
      exact ⟨h2.1, .inr ⟨g', c', cur, rfl, Nat.le_trans hb hbg, rest⟩⟩
/-- A list that grows in block g, beside a list that lies still; base: the call's first block; C: the first block behind the still list. -/
def Two8 (w W : World) (C g n cap : Nat) (xs : List Int) (a : Option Addr) (ys : List Int) : Prop :=
  Grow .i64 3 W w.heap.size (some ⟨g, 0, none⟩) n cap xs ∧ Own .i64 3 W (w.heap.size + 1) C a ys ∧ (g = w.heap.size ∨ C ≤ g) ∧ C ≤ W.heap.size ∧ Below w.heap.size w W
theorem Two8.alloc {w W : World} {C g n cap : Nat} {xs ys : List Int} {a : Option Addr} (h : Two8 w W C g n cap xs a ys) (o : Obj) : Two8 w (W.alloc o) C g n cap xs a ys :=
  ⟨h.1.alloc o, h.2.1.next (alloc_belowX W o), h.2.2.1, Nat.le_trans h.2.2.2.1 (by simp), h.2.2.2.2.alloc h.2.2.2.2.size o⟩
theorem Two8.ints {w W : World} {C g n cap : Nat} {xs ys : List Int} {a : Option Addr} (h : Two8 w W C g n cap xs a ys) : Ints .i64 W W.heap.size a ys := h.2.1.ints.more h.2.2.2.1
theorem growB8 {k : IntKind} {t : TypeId} {W : World} {base g n cap : Nat} {xs : List Int} (h : Grow k t W base (some ⟨g, 0, none⟩) n cap xs) : base ≤ g ∧ g < W.heap.size := World.ownsRow.lt h g rfl
theorem Two8.next {w W W' : World} {C g n cap g' n' cap' : Nat} {xs ys xs' : List Int} {a : Option Addr} (h : Two8 w W C g n cap xs a ys) (h1 : g' = g ∨ W.heap.size ≤ g')
    (h2 : Grow .i64 3 W' w.heap.size (some ⟨g', 0, none⟩) n' cap' xs') (h3 : W.grownBy W' (some g)) : Two8 w W' C g' n' cap' xs' a ys := by
  have hB := growB8 h.1
  have hC := h.2.2.2.1
  refine ⟨h2, h.2.1.keep (KeptOut.of_grown (B := g) (C := g + 1) h3 (Nat.le_refl _) (Nat.lt_succ_self _)) ?_, ?_, Nat.le_trans hC h3.size, h.2.2.2.2.grown h3 h.2.2.2.2.size (fun k e => by injection e with e; subst e; exact hB.1)⟩
  · rcases h.2.2.1 with e | e
    · right; omega
    · left; exact e
  · rcases h1 with e | e
    · rw [e]; exact h.2.2.1
    · right; omega
section
variable {w : World} {ops : Array Oper} {rest : List Oper} {o : Oper} {a : Act} {Q : Exit → Act → World → Prop}
theorem wpList_append_two8 (s x : Operand) (w0 : World) (C g n cap : Nat) (xs ys : List Int) (aY : Option Addr) (ad : Addr) (v : Int)
    (hgd : o.guard = none) (ho : o.op = .call { callee := .builtin .append, args := #[s, x], argTypes := #[24, 24] }) (hs : a.eval s = .slice (some ⟨g, 0, none⟩) n cap) (hx : a.eval x = .slice (some ad) 1 1)
    (hg : Two8 w0 w C g n cap xs aY ys) (hc : w.cell? ad = some (.int .i64 v)) (hn : n < 1099511627776)
    (h : ∀ g' cap' w', Two8 w0 w' C g' (n + 1) cap' (xs ++ [v]) aY ys → wpList Try.prog ops Q rest (a.put o.dst (.slice (some ⟨g', 0, none⟩) (n + 1) cap')) w') : wpList Try.prog ops Q (o :: rest) a w := by
  obtain ⟨g', cap', w', hr, h1, h2, h3⟩ := run_append_oneW w o.type w0.heap.size g n cap xs ad v hg.1 hc hn hg.2.2.2.2.size
  exact Lib.wpList_append_run w hgd s x _ _ ho _ _ hs hx _ _ hr (h g' cap' w' (hg.next h1 h2 h3))
end
theorem dbit_yes {x : Int} (h : 0 < x) : dbit x = 1 := if_pos h
theorem dbit_no {x : Int} (h : ¬ 0 < x) : dbit x = 0 := if_neg h
set_option maxHeartbeats 2000000 in
theorem specDespreadBits_any (a : Option Addr) (c : Nat) (xs : List Int) (k : Int) (w : World) (hx : Ints .i64 w w.heap.size a xs) (hl : xs.length ≤ maxLen) :
    Calls Try.prog 30 #[.slice a xs.length c, .int .i64 k] w (ListPostC (dbOr xs k) w) := by
  have HA := Lib.hid (alloc_belowX w (.cells #[] 3))
  have H1 := Lib.hid (specDespreadSums_any a c xs k (w.alloc (.cells #[] 3)) ((hx.below HA.out).more HA.out.size) hl)
  have HE := Lib.hid (show dbOr xs k = (dsOr xs k).map dbit from rfl)
  have HLen := Lib.hid (dsOr_length xs k)
  have G0 := Lib.hid (Grow.lit0 .i64 3 w w.heap.size (Nat.le_refl _))
  obtain ⟨S, hS⟩ : ∃ S, S = dsOr xs k := ⟨_, rfl⟩
  rw [← hS] at H1 HE HLen
  clear hx hl hS
  have K0 := Lib.hid (show (List.range S.length).map (fun i => dbit (el S i)) = S.map dbit from list_ext9 (by simp) fun i hi => by
    rw [List.length_map, List.length_range] at hi
    simp [el, hi])
  go_enter Try.func30, Try.ntmps30
  go_wp2_with (go_at_call 28; (with_reducible refine H1.out.mono ?_); rintro e w2 ⟨a2, cap2, rfl, _, o2, b2⟩; have T2 : Hid (Two8 w w2 w2.heap.size w.heap.size 0 0 [] a2 S) := (⟨G0.out.below b2, (by have := own_of_list o2; rwa [show (w.alloc (.cells #[] 3)).heap.size = w.heap.size + 1 by simp] at this), .inl rfl, Nat.le_refl _, Below.next HA.out (Nat.le_refl _) b2⟩); clear o2 b2)
  obtain ⟨C, hC⟩ : ∃ C, C = w2.heap.size := ⟨_, rfl⟩
  rw [← hC] at T2
  clear hC
  go_loopw [5, 7] (fun s i wr => ∃ (j g cap : Nat), j ≤ S.length ∧ i = .int .i64 j ∧ s = .slice (some ⟨g, 0, none⟩) j cap ∧ Two8 w wr C g j cap ((List.range j).map fun i => dbit (el S i)) a2 S) (fun _ i _ => S.length - (intOf i).toNat)
  case atStart => exact ⟨0, _, _, Nat.zero_le _, rfl, rfl, T2.out⟩
  case round =>
    obtain ⟨j, g, cap, hj, rfl, rfl, htwo⟩ := hrel
    have T3 := Lib.hid htwo
    have hj2 : j ≤ 32 := Nat.le_trans hj HLen.out
    clear htwo T2
    by_cases hlt : j < S.length
    · obtain ⟨b, off, rfl, hb, hc⟩ := T3.out.ints.at_ hlt
      have HN := Lib.hid (map_one (fun i => dbit (el S i)) j)
      generalize (List.range j).map (fun i => dbit (el S i)) = zs at *
      generalize el S j = x at *
      clear hb
      by_cases h0 : 0 < x
      · have HN2 := HN.out
        rw [dbit_yes h0] at HN2
        have HN3 := Lib.hid HN2
        clear HN2
        go_wp2_with (at_builtin; refine wpList_append_two8 (.tmp 23) (.tmp 24) w C g j cap zs S _ ⟨wr.heap.size, 0, none⟩ 1 rfl rfl rfl rfl (T3.out.alloc _) (by simp) (by omega) ?_; intro g3 cap3 w3 ht3; have T4 := Lib.hid ht3; clear ht3)
        go_roundw
        case rel => exact ⟨j + 1, g3, cap3, by omega, by go_num, rfl, by rw [HN3.out]; exact T4.out⟩
        case measure => simp [intOf]; omega
      · have HN2 := HN.out
        rw [dbit_no h0] at HN2
        have HN3 := Lib.hid HN2
        clear HN2
        go_wp2_with (at_builtin; refine wpList_append_two8 (.tmp 26) (.tmp 27) w C g j cap zs S _ ⟨wr.heap.size, 0, none⟩ 0 rfl rfl rfl rfl (T3.out.alloc _) (by simp) (by omega) ?_; intro g3 cap3 w3 ht3; have T4 := Lib.hid ht3; clear ht3)
        go_roundw
        case rel => exact ⟨j + 1, g3, cap3, by omega, by go_num, rfl, by rw [HN3.out]; exact T4.out⟩
        case measure => simp [intOf]; omega
    · obtain rfl : S.length = j := by omega
      go_wp2
      go_ret
      rw [HE.out, ← K0.out]
      exact listPostC_grow T3.out.1 T3.out.2.2.2.2
end Go.Proofs.Ytnnknfpkbhcghaa
