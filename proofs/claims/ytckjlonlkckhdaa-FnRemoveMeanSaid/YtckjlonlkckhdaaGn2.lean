/-
  What the models of chapter 13 answer, for all arguments. Conditions: the list can be read; its length can be.
-/
import Derived.Test.YtckjlonlkckhdaaGn1
namespace Go.Proofs.Ytckjlonlkckhdaa
open Go.RowKit

theorem l1Clip_is (n lo hi v : Int) (w : World) (hlh : lo ≤ hi) (hv : clip lo hi n = v) :
    Calls Try.prog 43 #[.int .i64 n, .int .i64 lo, .int .i64 hi] w fun e w' => e = .returned (.int .i64 v) ∧ w = w' := by
  have H := Lib.hid hv
  clear hv
  by_cases h1 : n < hi
  · by_cases h2 : lo < n
    · obtain rfl : v = n := by rw [← H.out]; unfold clip; rw [if_neg (by omega), if_neg (by omega)]
      go_enter Try.func43, Try.ntmps43
      go_wp2
      go_ret
      exact ⟨rfl, rfl⟩
    · obtain rfl : v = lo := by rw [← H.out]; unfold clip; split <;> (try split) <;> omega
      go_enter Try.func43, Try.ntmps43
      go_wp2
      go_ret
      exact ⟨rfl, rfl⟩
  · by_cases h2 : lo < hi
    · obtain rfl : v = hi := by rw [← H.out]; unfold clip; split <;> (try split) <;> omega
      go_enter Try.func43, Try.ntmps43
      go_wp2
      go_ret
      exact ⟨rfl, rfl⟩
    · obtain rfl : lo = hi := by omega
      obtain rfl : v = lo := by rw [← H.out]; unfold clip; split <;> (try split) <;> omega
      clear hlh h2
      have h2 : ¬ v < v := by omega
      go_enter Try.func43, Try.ntmps43
      go_wp2
      go_ret
      exact ⟨rfl, rfl⟩
theorem pk_next2 {xs : List Int} {k : Nat} {p x y z : Int} (hp : p = pkN xs k) (hx : x = el xs k) (hz : (if -x > x then -x else x) = z) (hy : (if z > p then z else p) = y) : y = pkN xs (k + 1) := by
  have e : z = ab x := by rw [← hz]; unfold ab; split <;> split <;> omega
  rw [← hy, hp, e, hx]
  rfl
set_option maxHeartbeats 1000000 in
theorem specPeakOf_any (a : Option Addr) (c : Nat) (xs : List Int) (w : World) (hx : Ints .i64 w w.heap.size a xs) (hlx0 : xs.length ≤ maxLen) :
    Calls Try.prog 14 #[.slice a xs.length c] w fun e w' => e = .returned (.int .i64 (pkOr xs)) ∧ ∃ n, w' = w.drewN n := by
  have HV := Lib.hid (fun b h => specSeqValid_is a c w.heap.size xs w b hx hlx0 h)
  have HX := Lib.hid hx
  clear hx hlx0
  cases h1 : seqOk xs
  · have H1 := Lib.hid (HV.out false h1)
    have HE := Lib.hid (pkOr_no h1)
    clear HV h1
    go_enter Try.func14, Try.ntmps14
    go_wp2_with (go_at_call 36; ((with_reducible refine H1.out.mono ?_); rintro e w' ⟨rfl, rfl⟩))
    go_ret
    exact ⟨ret_int HE.out.symm, 0, rfl⟩
  · have H1 := Lib.hid (HV.out true h1)
    have HE := Lib.hid (pkOr_yes h1)
    have HO := Lib.hid h1
    have hl := seqOk_len h1
    clear HV h1
    go_enter Try.func14, Try.ntmps14
    go_wp2_with (go_at_call 36; ((with_reducible refine H1.out.mono ?_); rintro e w' ⟨rfl, rfl⟩))
    clear H1
    go_loopw [3, 4] (fun s i wr => ∃ k n : Nat, k ≤ xs.length ∧ i = .int .i64 k ∧ s = .int .i64 (pkN xs k) ∧ wr = w.drewN n) (fun _ i _ => xs.length - (intOf i).toNat)
    case atStart => exact ⟨0, 0, Nat.zero_le _, rfl, rfl, rfl⟩
    case round =>
      obtain ⟨k, n, hk, rfl, rfl, rfl⟩ := hrel
      have hk64 : k ≤ 64 := by omega
      by_cases hlt : k < xs.length
      · obtain ⟨b, off, rfl, hb, hc⟩ := HX.out.at_ hlt
        obtain ⟨p, hp⟩ : ∃ p, p = pkN xs k := ⟨_, rfl⟩
        obtain ⟨x, hx⟩ : ∃ x, x = el xs k := ⟨_, rfl⟩
        obtain ⟨z, hz⟩ : ∃ z, (if -x > x then -x else x) = z := ⟨_, rfl⟩
        obtain ⟨y, hy⟩ : ∃ y, (if z > p then z else p) = y := ⟨_, rfl⟩
        have hin := seqOk_in HO.out k
        rw [← hx] at hin hc
        rw [← hp]
        have HN := Lib.hid (pk_next2 hp hx hz hy)
        have r1 := wrapS (n := -x) (by omega)
        have r1' := wrapS' (n := -x) (by omega)
        clear hp hx hb hin
        go_wp2
        go_quiet (fail)
        go_wp2
        go_roundw
        case rel => exact ⟨k + 1, _, by omega, by go_num, by rw [← HN.out], rfl⟩
        case measure => simp [intOf]; omega
      · obtain rfl : xs.length = k := by omega
        go_wp2
        go_ret
        exact ⟨ret_int HE.out.symm, n, rfl⟩
theorem l1In_gain (n : Int) (b : Bool) (w : World) (h : gOk n = b) : Calls Try.prog 42 #[.int .i64 n, .int .i64 1, .int .i64 4096] w fun e w' => e = .returned (.bool b) ∧ w = w' := by
  subst h; exact l1In_any n 1 4096 w
def uOk (u : Int) : Bool := decide (1 ≤ u) && decide (u ≤ 1000)
theorem l1In_want (n : Int) (b : Bool) (w : World) (h : uOk n = b) : Calls Try.prog 42 #[.int .i64 n, .int .i64 1, .int .i64 1000] w fun e w' => e = .returned (.bool b) ∧ w = w' := by
  subst h; exact l1In_any n 1 1000 w
set_option maxHeartbeats 1000000 in
theorem specGainStep_any (a : Option Addr) (c : Nat) (g u : Int) (xs : List Int) (w : World) (hx : Ints .i64 w w.heap.size a xs) (hlx0 : xs.length ≤ maxLen) :
    Calls Try.prog 19 #[.int .i64 g, .slice a xs.length c, .int .i64 u] w fun e w' => e = .returned (.int .i64 (gnOr g xs u)) ∧ ∃ n, w' = w.drewN n := by
  have HP := specPeakOf_any a c xs w hx hlx0
  clear hx hlx0
  cases h1 : seqOk xs
  · rw [pkOr_no h1] at HP
    have HP := Lib.hid HP
    have HE := Lib.hid (gnOr_no (g := g) (xs := xs) (wanted := u) fun h => by have := h.1; rw [h1] at this; cases this)
    clear h1
    go_enter Try.func19, Try.ntmps19
    go_wp2_with (go_at_call 14; ((with_reducible refine HP.out.mono ?_); rintro e w' ⟨rfl, n, rfl⟩))
    go_ret
    exact ⟨ret_int HE.out.symm, n, rfl⟩
  · rw [pkOr_yes h1] at HP
    obtain ⟨p, hp⟩ : ∃ p, p = pkN xs xs.length := ⟨_, rfl⟩
    have hp2 : 0 ≤ p ∧ p ≤ 1000 := by rw [hp]; exact ⟨pkN_pos _ _, pkN_le h1 _⟩
    rw [← hp] at HP
    have HP := Lib.hid HP
    have zp : decide (p < 0) = false := by simp; omega
    have zp' : ¬ p < 0 := by omega
    cases h0 : gOk g
    · have H0 := Lib.hid (fun W => l1In_gain g false W h0)
      have HE := Lib.hid (gnOr_no (g := g) (xs := xs) (wanted := u) fun h => gOk_not h0 h.2.1)
      clear h0 h1 hp hp2
      go_enter Try.func19, Try.ntmps19
      go_wp2_with (first | (go_at_call 14; ((with_reducible refine HP.out.mono ?_); rintro e w' ⟨rfl, n, rfl⟩)) | (go_at_call 42; ((with_reducible refine (H0.out _).mono ?_); rintro e w1 ⟨rfl, rfl⟩)))
      go_ret
      exact ⟨ret_int HE.out.symm, n, rfl⟩
    · have H0 := Lib.hid (fun W => l1In_gain g true W h0)
      cases h2 : uOk u
      · have H2 := Lib.hid (fun W => l1In_want u false W h2)
        have HE := Lib.hid (gnOr_no (g := g) (xs := xs) (wanted := u) fun h => by
          have := h.2.2
          simp [uOk, this.1, this.2] at h2)
        clear h0 h1 h2 hp hp2
        go_enter Try.func19, Try.ntmps19
        go_wp2_with (first | (go_at_call 14; ((with_reducible refine HP.out.mono ?_); rintro e w' ⟨rfl, n, rfl⟩)) | (go_at_call 42; ((with_reducible refine (H0.out _).mono ?_); rintro e w1 ⟨rfl, rfl⟩)) | (go_at_call 42; ((with_reducible refine (H2.out _).mono ?_); rintro e w1 ⟨rfl, rfl⟩)))
        go_ret
        exact ⟨ret_int HE.out.symm, n, rfl⟩
      · have H2 := Lib.hid (fun W => l1In_want u true W h2)
        have hu : 1 ≤ u ∧ u ≤ 1000 := by simpa [uOk] using h2
        have hg := gOk_parts h0
        have HE0 := gnOr_yes (g := g) (xs := xs) (wanted := u) ⟨h1, hg, hu.1, hu.2⟩
        rw [← hp] at HE0
        unfold gnN at HE0
        obtain ⟨r, hr⟩ : ∃ r, r = p * g / 256 := ⟨_, rfl⟩
        obtain ⟨s, hs⟩ : ∃ s, s = mx 1 (g / 16) := ⟨_, rfl⟩
        obtain ⟨q, hq⟩ : ∃ q, q = p * g := ⟨_, rfl⟩
        obtain ⟨t, ht⟩ : ∃ t, t = g / 16 := ⟨_, rfl⟩
        have hq2 : 0 ≤ q ∧ q ≤ 4096000 := by
          refine ⟨by rw [hq]; exact Int.mul_nonneg hp2.1 (by omega), ?_⟩
          have h : (p * g).natAbs ≤ 1000 * 4096 := by rw [Int.natAbs_mul]; exact Nat.mul_le_mul (by omega) (by omega)
          omega
        have hr2 : 0 ≤ r ∧ r ≤ 16000 := by rw [hr, ← hq]; omega
        have e1 : IntKind.i64.wrap (p * g) = q := by rw [← hq]; exact wrapS (by omega)
        have e1' : wrap64 (p * g) = q := by rw [← hq]; exact wrapS' (by omega)
        have e2 : q.tdiv 256 = r := by rw [Int.tdiv_eq_ediv_of_nonneg hq2.1, hr, hq]
        have e3 : IntKind.i64.wrap r = r := wrapS (by omega)
        have e3' : wrap64 r = r := wrapS' (by omega)
        have e4 : g.tdiv 16 = t := by rw [Int.tdiv_eq_ediv_of_nonneg (by omega), ht]
        have ht2 : 0 ≤ t ∧ t ≤ 256 := by omega
        have e5 : IntKind.i64.wrap t = t := wrapS (by omega)
        have e5' : wrap64 t = t := wrapS' (by omega)
        have e6 : (if t > 1 then t else 1) = s := by rw [hs, ← ht]; rfl
        have hs2 : 1 ≤ s ∧ s ≤ 256 := by rw [← e6]; split <;> omega
        rw [← hr, ← hs] at HE0
        have r1 := wrapS (n := g + s) (by omega)
        have r1' := wrapS' (n := g + s) (by omega)
        have r2 := wrapS (n := g - s) (by omega)
        have r2' := wrapS' (n := g - s) (by omega)
        clear h0 h1 h2 hp hr hs hq ht hs2 ht2 hq2 hr2 hu hg
        by_cases k1 : p = 0
        · rw [if_pos (.inl k1)] at HE0
          have HE := Lib.hid HE0
          have z1 : (p == 0) = true := by simp [k1]
          clear HE0 k1 hp2
          go_enter Try.func19, Try.ntmps19
          go_wp2_with (first | (go_at_call 14; ((with_reducible refine HP.out.mono ?_); rintro e w' ⟨rfl, n, rfl⟩)) | (go_at_call 42; ((with_reducible refine (H0.out _).mono ?_); rintro e w1 ⟨rfl, rfl⟩)) | (go_at_call 42; ((with_reducible refine (H2.out _).mono ?_); rintro e w1 ⟨rfl, rfl⟩)))
          go_ret
          exact ⟨ret_int HE.out.symm, n, rfl⟩
        · have z1 : (p == 0) = false := by simp [k1]
          by_cases k2 : r = u
          · rw [if_pos (.inr k2)] at HE0
            have HE := Lib.hid HE0
            have z2 : (r == u) = true := by simp [k2]
            clear HE0 k1 k2 hp2
            go_enter Try.func19, Try.ntmps19
            go_wp2_with (first | (go_at_call 14; ((with_reducible refine HP.out.mono ?_); rintro e w' ⟨rfl, n, rfl⟩)) | (go_at_call 42; ((with_reducible refine (H0.out _).mono ?_); rintro e w1 ⟨rfl, rfl⟩)) | (go_at_call 42; ((with_reducible refine (H2.out _).mono ?_); rintro e w1 ⟨rfl, rfl⟩)))
            go_ret
            exact ⟨ret_int HE.out.symm, n, rfl⟩
          · have z2 : (r == u) = false := by simp [k2]
            rw [if_neg (by omega)] at HE0
            by_cases k3 : r < u
            · rw [if_pos k3] at HE0
              have HE := Lib.hid HE0
              have H3 := Lib.hid (fun W => l1Clip_is (g + s) 1 4096 _ W (by omega) rfl)
              clear HE0 k1 k2 hp2
              generalize clip 1 4096 (g + s) = v at *
              go_enter Try.func19, Try.ntmps19
              go_wp2_with (first | (go_at_call 14; ((with_reducible refine HP.out.mono ?_); rintro e w' ⟨rfl, n, rfl⟩)) | (go_at_call 42; ((with_reducible refine (H0.out _).mono ?_); rintro e w1 ⟨rfl, rfl⟩)) | (go_at_call 42; ((with_reducible refine (H2.out _).mono ?_); rintro e w1 ⟨rfl, rfl⟩)) | (go_at_call 43; ((with_reducible refine (H3.out _).mono ?_); rintro e w1 ⟨rfl, rfl⟩)))
              go_ret
              exact ⟨ret_int HE.out.symm, n, rfl⟩
            · rw [if_neg k3] at HE0
              have HE := Lib.hid HE0
              have H3 := Lib.hid (fun W => l1Clip_is (g - s) 1 4096 _ W (by omega) rfl)
              clear HE0 k1 k2 hp2
              generalize clip 1 4096 (g - s) = v at *
              go_enter Try.func19, Try.ntmps19
              go_wp2_with (first | (go_at_call 14; ((with_reducible refine HP.out.mono ?_); rintro e w' ⟨rfl, n, rfl⟩)) | (go_at_call 42; ((with_reducible refine (H0.out _).mono ?_); rintro e w1 ⟨rfl, rfl⟩)) | (go_at_call 42; ((with_reducible refine (H2.out _).mono ?_); rintro e w1 ⟨rfl, rfl⟩)) | (go_at_call 43; ((with_reducible refine (H3.out _).mono ?_); rintro e w1 ⟨rfl, rfl⟩)))
              go_ret
              exact ⟨ret_int HE.out.symm, n, rfl⟩
theorem map_oneG (f : Nat → Int) (m : Nat) : (List.range (m + 1)).map f = (List.range m).map f ++ [f m] := by simp [List.range_succ]
set_option maxHeartbeats 2000000 in
theorem specApplyGain_any (a : Option Addr) (c : Nat) (g : Int) (xs : List Int) (w : World) (hx : Ints .i64 w w.heap.size a xs) (hlx0 : xs.length ≤ maxLen) :
    Calls Try.prog 23 #[.int .i64 g, .slice a xs.length c] w (ListPostC (agOr g xs) w) := by
  have hal := fun o : Obj => (Below.refl w.heap.size w).alloc (Nat.le_refl _) o
  have HA := Lib.hid hal
  have HV := Lib.hid (fun (o : Obj) b h => specSeqValid_is a c w.heap.size xs (w.alloc o) b (hx.below (hal o)) hlx0 h)
  have HX := Lib.hid hx
  clear hx hal hlx0
  cases h1 : seqOk xs
  · have H1 := Lib.hid (fun o => HV.out o false h1)
    have HE := Lib.hid (agOr_no (g := g) (xs := xs) fun h => by rw [h1] at h; exact absurd h.1 (by decide))
    clear HV h1
    go_enter Try.func23, Try.ntmps23
    go_wp2_with (go_at_call 36; ((with_reducible refine (H1.out _).mono ?_); rintro e w' ⟨rfl, rfl⟩))
    go_ret
    rw [HE.out]
    exact listPostC_grow (Grow.lit0 _ _ _ _ (Nat.le_refl _)) (HA.out _)
  · have H1 := Lib.hid (fun o => HV.out o true h1)
    cases h0 : gOk g
    · have H0 := Lib.hid (fun W => l1In_gain g false W h0)
      have HE := Lib.hid (agOr_no (g := g) (xs := xs) fun h => gOk_not h0 h.2)
      clear HV h0 h1
      go_enter Try.func23, Try.ntmps23
      go_wp2_with (first | (go_at_call 36; ((with_reducible refine (H1.out _).mono ?_); rintro e w' ⟨rfl, rfl⟩)) | (go_at_call 42; ((with_reducible refine (H0.out _).mono ?_); rintro e w1 ⟨rfl, rfl⟩)))
      go_ret
      rw [HE.out]
      exact listPostC_grow (Grow.lit0 _ _ _ _ (Nat.le_refl _)) (HA.out _)
    · have H0 := Lib.hid (fun W => l1In_gain g true W h0)
      have hg := gOk_parts h0
      have hl := seqOk_len h1
      have HE := Lib.hid (agOr_yes h1 hg.1 hg.2)
      have HO := Lib.hid h1
      have HG0 := Lib.hid hg
      clear HV h0 h1 hg
      go_enter Try.func23, Try.ntmps23
      go_wp2_with (first | (go_at_call 36; ((with_reducible refine (H1.out _).mono ?_); rintro e w' ⟨rfl, rfl⟩)) | (go_at_call 42; ((with_reducible refine (H0.out _).mono ?_); rintro e w1 ⟨rfl, rfl⟩)))
      clear H0 H1
      go_loopw [5, 6] (fun s i wr => ∃ (k : Nat) (v : Option Addr) (cap : Nat), k ≤ xs.length ∧ i = .int .i64 k ∧ s = .slice v k cap ∧ Grow .i64 3 wr w.heap.size v k cap ((List.range k).map (agF g xs)) ∧ Below w.heap.size w wr) (fun _ i _ => xs.length - (intOf i).toNat)
      case atStart => exact ⟨0, _, _, Nat.zero_le _, rfl, rfl, Grow.lit0 _ _ _ _ (Nat.le_refl _), HA.out _⟩
      case round =>
        obtain ⟨k, v, cap, hk, rfl, rfl, hgr, hbel⟩ := hrel
        have HG := Lib.hid hgr
        have HB := Lib.hid hbel
        have hsz : w.heap.size ≤ wr.heap.size := hbel.size
        have hk64 : k ≤ 64 := by omega
        clear hgr hbel
        by_cases hlt : k < xs.length
        · obtain ⟨b, off, rfl, hb, hc⟩ := (HX.out.below HB.out).at_ hlt
          obtain ⟨p, q, hp, hq, ⟨r1, r1'⟩, ⟨r2, r2'⟩, _, _⟩ := gn_nums (seqOk_in HO.out k) HG0.out
          obtain ⟨y, hy⟩ : ∃ y, clip (-1000) 1000 q = y := ⟨_, rfl⟩
          have HN := Lib.hid (show (List.range (k + 1)).map (agF g xs) = (List.range k).map (agF g xs) ++ [y] by
            rw [map_oneG, ← hy, ← hq, ← hp]; rfl)
          have HC := Lib.hid (fun W => l1Clip_is q (-1000) 1000 y W (by omega) hy)
          have q1 : IntKind.i64.wrap (el xs k * g) = p := by rw [hp]; exact r1
          have q1' : wrap64 (el xs k * g) = p := by rw [hp]; exact r1'
          generalize el xs k = x at *
          generalize (List.range k).map (agF g xs) = zs at *
          clear hb hp hy r1 r1'
          go_wp2_with (first
            | (go_at_call 43; ((with_reducible refine (HC.out _).mono ?_); rintro e w1 ⟨rfl, rfl⟩))
            | (at_builtin; refine wpList_append1 (.tmp 23) (.tmp 32) w.heap.size v k cap zs ⟨wr.heap.size, 0, none⟩ y rfl rfl rfl rfl (HG.out.alloc _) (by simp) (by omega) (by simp; omega) ?_; intro a3 cap3 w3 hg3 hb3; have HG3 := Lib.hid hg3; have HB3 := Lib.hid hb3; clear hg3 hb3))
          go_roundw
          case rel => exact ⟨k + 1, a3, cap3, by omega, by go_num, rfl, by rw [HN.out]; exact HG3.out, (HB.out.alloc hsz _).trans HB3.out⟩
          case measure => simp [intOf]; omega
        · obtain rfl : xs.length = k := by omega
          go_wp2
          go_ret
          rw [HE.out]
          exact listPostC_grow HG.out HB.out
set_option maxHeartbeats 4000000 in
theorem specRemoveMean_any (a : Option Addr) (c : Nat) (xs : List Int) (w : World) (hx : Ints .i64 w w.heap.size a xs) (hlx0 : xs.length ≤ maxLen) :
    Calls Try.prog 27 #[.slice a xs.length c] w (ListPostC (rmOr xs) w) := by
  have hal := fun o : Obj => (Below.refl w.heap.size w).alloc (Nat.le_refl _) o
  have HA := Lib.hid hal
  have HV := Lib.hid (fun (o : Obj) b h => specSeqValid_is a c w.heap.size xs (w.alloc o) b (hx.below (hal o)) hlx0 h)
  have HX := Lib.hid hx
  clear hx hal hlx0
  cases h1 : seqOk xs
  · have H1 := Lib.hid (fun o => HV.out o false h1)
    have HE := Lib.hid (rmOr_no (xs := xs) fun h => by rw [h1] at h; exact absurd h.1 (by decide))
    clear HV h1
    go_enter Try.func27, Try.ntmps27
    go_wp2_with (go_at_call 36; ((with_reducible refine (H1.out _).mono ?_); rintro e w' ⟨rfl, rfl⟩))
    go_ret
    rw [HE.out]
    exact listPostC_grow (Grow.lit0 _ _ _ _ (Nat.le_refl _)) (HA.out _)
  · have H1 := Lib.hid (fun o => HV.out o true h1)
    by_cases h2 : xs.length = 0
    · have HE := Lib.hid (rmOr_no (xs := xs) fun h => by omega)
      have z1 : ((xs.length : Int) == 0) = true := by simp [h2]
      clear HV h1 h2
      go_enter Try.func27, Try.ntmps27
      go_wp2_with (go_at_call 36; ((with_reducible refine (H1.out _).mono ?_); rintro e w' ⟨rfl, rfl⟩))
      go_ret
      rw [HE.out]
      exact listPostC_grow (Grow.lit0 _ _ _ _ (Nat.le_refl _)) (HA.out _)
    · have z1 : ((xs.length : Int) == 0) = false := by rw [beq_eq_false_iff_ne]; omega
      have hl := seqOk_len h1
      have HE := Lib.hid (rmOr_yes h1 (by omega))
      have HO := Lib.hid h1
      have HS := Lib.hid (fun (k : Nat) (hk : k ≤ 64) => show -1000000000000 ≤ sqS (el xs) k ∧ sqS (el xs) k ≤ 1000000000000 by
        have := sqS_bound (f := el xs) (M := 1000) (n := k) fun i _ => seqOk_in h1 i
        omega)
      have HM := Lib.hid (mn_in h1 (by omega))
      clear HV h1
      go_enter Try.func27, Try.ntmps27
      go_wp2_with (go_at_call 36; ((with_reducible refine (H1.out _).mono ?_); rintro e w' ⟨rfl, rfl⟩))
      clear H1 z1
      go_loopw [4, 5] (fun s i wr => ∃ k : Nat, k ≤ xs.length ∧ i = .int .i64 k ∧ s = .int .i64 (sqS (el xs) k) ∧ wr = w.alloc (.cells #[] 3)) (fun _ i _ => xs.length - (intOf i).toNat)
      case atStart => exact ⟨0, Nat.zero_le _, rfl, rfl, rfl⟩
      case round =>
        obtain ⟨k, hk, rfl, rfl, rfl⟩ := hrel
        have hk64 : k ≤ 64 := by omega
        by_cases hlt : k < xs.length
        · obtain ⟨b, off, rfl, hb, hc⟩ := (HX.out.below (HA.out (.cells #[] 3))).at_ hlt
          obtain ⟨p, hp⟩ : ∃ p, p = sqS (el xs) k := ⟨_, rfl⟩
          obtain ⟨x, hx⟩ : ∃ x, x = el xs k := ⟨_, rfl⟩
          have hs := HS.out (k + 1) (by omega)
          obtain ⟨s, hs1⟩ : ∃ s, s = sqS (el xs) (k + 1) := ⟨_, rfl⟩
          rw [← hs1] at hs
          have hsum : p + x = s := by rw [hp, hx, hs1]; rfl
          rw [← hx] at hc
          rw [← hp]
          have HN := Lib.hid hs1
          have r1 : IntKind.i64.wrap (p + x) = s := by rw [hsum]; exact wrapS hs
          have r1' : wrap64 (p + x) = s := by rw [hsum]; exact wrapS' hs
          clear hp hx hb hs hs1 hsum
          go_wp2
          go_roundw
          case rel => exact ⟨k + 1, by omega, by go_num, by first | rw [← HN.out] | (rw [← HN.out, r1']), by first | rfl | trivial⟩
          case measure => simp [intOf]; omega
        · obtain rfl : xs.length = k := by omega
          obtain ⟨s, hs⟩ : ∃ s, s = sqS (el xs) xs.length := ⟨_, rfl⟩
          obtain ⟨m, hm⟩ : ∃ m, m = mn xs := ⟨_, rfl⟩
          have hmb := HM.out
          rw [← hm] at hmb
          have e : s.tdiv (xs.length : Int) = m := by rw [hs, hm]; rfl
          have e1 : IntKind.i64.wrap (s.tdiv (xs.length : Int)) = m := by rw [e]; exact wrapS (by omega)
          have e1' : wrap64 (s.tdiv (xs.length : Int)) = m := by rw [e]; exact wrapS' (by omega)
          have HF := Lib.hid (fun i => show rmF xs i = clip (-1000) 1000 (el xs i - m) by rw [hm]; rfl)
          have HMb := Lib.hid hmb
          have HE1 := Lib.hid (And.intro e1 e1')
          rw [← hs]
          clear hs hm hmb HM HS e e1 e1'
          go_wp2
          go_loopw [3, 6] (fun s i wr => ∃ (k : Nat) (v : Option Addr) (cap : Nat), k ≤ xs.length ∧ i = .int .i64 k ∧ s = .slice v k cap ∧ Grow .i64 3 wr w.heap.size v k cap ((List.range k).map (rmF xs)) ∧ Below w.heap.size w wr) (fun _ i _ => xs.length - (intOf i).toNat)
          case atStart => exact ⟨0, _, _, Nat.zero_le _, rfl, rfl, Grow.lit0 _ _ _ _ (Nat.le_refl _), HA.out _⟩
          case round =>
            obtain ⟨k, v, cap, hk, rfl, rfl, hgr, hbel⟩ := hrel
            have HG := Lib.hid hgr
            have HB := Lib.hid hbel
            have hsz : w.heap.size ≤ wr.heap.size := hbel.size
            have hk64 : k ≤ 64 := by omega
            clear hgr hbel
            by_cases hlt : k < xs.length
            · obtain ⟨b, off, rfl, hb, hc⟩ := (HX.out.below HB.out).at_ hlt
              have hxb := seqOk_in HO.out k
              have hmb := HMb.out
              obtain ⟨y, hy⟩ : ∃ y, clip (-1000) 1000 (el xs k - m) = y := ⟨_, rfl⟩
              have HN := Lib.hid (show (List.range (k + 1)).map (rmF xs) = (List.range k).map (rmF xs) ++ [y] by
                rw [map_oneG, ← hy, ← HF.out])
              have HC := Lib.hid (fun W => l1Clip_is (el xs k - m) (-1000) 1000 y W (by omega) hy)
              generalize el xs k = x at *
              generalize (List.range k).map (rmF xs) = zs at *
              have q1 := wrapS (n := x - m) (by omega)
              have q1' := wrapS' (n := x - m) (by omega)
              obtain ⟨e1, e1'⟩ := HE1.out
              clear hb hy hxb hmb
              go_wp2
              go_region_law (first
                | (refine step_append1 (.tmp 35) (.tmp 46) w.heap.size v k cap zs ⟨wr.heap.size, 0, none⟩ y rfl rfl rfl rfl (HG1.out.alloc _) (by simp) (by omega) (by simp; omega) ?_; intro a2 cap2 w2 hg2 hb2; have HG2 := Lib.hid hg2; have HB2 := Lib.hid hb2; clear hg2 hb2)
                | (go_simp; go_at_call 43; refine (HC.out _).mono ?_; rintro e w' ⟨rfl, rfl⟩; have HG1 : Hid (Grow .i64 3 wr.drew w.heap.size v k cap zs) := HG.out)
                | fail)
              all_goals
                clear e1 e1'
                go_wp2
                go_roundw
                case rel => exact ⟨k + 1, a2, cap2, by omega, by go_num, rfl, by rw [HN.out]; exact HG2.out, (HB.out.alloc hsz _).drew.trans HB2.out⟩
                case measure => simp [intOf]; omega
            · obtain rfl : xs.length = k := by omega
              go_wp2
              go_ret
              rw [HE.out]
              exact listPostC_grow HG.out HB.out
end Go.Proofs.Ytckjlonlkckhdaa
