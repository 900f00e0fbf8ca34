/-
  What the parts of chapter 13's program answer: gains, peaks, means, and the four functions over them. Conditions: lists that can be read; the parts: valid gains and valid sequences.
-/
import Derived.Test.YtckjlonlkckhdaaGainMath
import Derived.Test.YtckjlonlkckhdaaSeq4
import Derived.Test.YtckjlonlkckhdaaWs1
import Derived.Laws.Cover1
namespace Go.Proofs.Ytckjlonlkckhdaa
open Go.RowKit

def gOk (g : Int) : Bool := decide (1 ≤ g) && decide (g ≤ 4096)
theorem gOk_parts {g : Int} (h : gOk g = true) : 1 ≤ g ∧ g ≤ 4096 := by simpa [gOk] using h
theorem gOk_not {g : Int} (h : gOk g = false) : ¬ (1 ≤ g ∧ g ≤ 4096) := fun h' => by simp [gOk, h'.1, h'.2] at h
theorem gainValid_any (n : Int) (w : World) : Calls Try.prog 40 #[.int .i64 n] w fun e w' => e = .returned (.bool (gOk n)) ∧ w = w' := by
  by_cases h1 : 1 ≤ n
  · by_cases h2 : n ≤ 4096
    · go_enter Try.func40, Try.ntmps40
      go_wp2
      go_ret
      exact ⟨ret_bool (by simp [gOk, h1, h2]), rfl⟩
    · go_enter Try.func40, Try.ntmps40
      go_wp2
      go_ret
      exact ⟨ret_bool (by simp [gOk, h2]), rfl⟩
  · go_enter Try.func40, Try.ntmps40
    go_wp2
    go_ret
    exact ⟨ret_bool (by simp only [gOk, decide_eq_false (show ¬ 1 ≤ n by omega), Bool.false_and]), rfl⟩
theorem gainValid_is (n : Int) (b : Bool) (w : World) (h : gOk n = b) : Calls Try.prog 40 #[.int .i64 n] w fun e w' => e = .returned (.bool b) ∧ w = w' := by
  subst h; exact gainValid_any n w
/-- One product divided by 256, as a walk wants it. -/
theorem gn_nums {x g : Int} (hx : -1000 ≤ x ∧ x ≤ 1000) (hg : 1 ≤ g ∧ g ≤ 4096) : ∃ p v : Int, x * g = p ∧ p.tdiv 256 = v ∧ (IntKind.i64.wrap p = p ∧ wrap64 p = p) ∧ (IntKind.i64.wrap v = v ∧ wrap64 v = v) ∧ (-16000 ≤ v ∧ v ≤ 16000) ∧ (-4096000 ≤ p ∧ p ≤ 4096000) := by
  have hb : -4096000 ≤ x * g ∧ x * g ≤ 4096000 := by
    have h : (x * g).natAbs ≤ 1000 * 4096 := by rw [Int.natAbs_mul]; exact Nat.mul_le_mul (by omega) (by omega)
    omega
  have hv : -16000 ≤ (x * g).tdiv 256 ∧ (x * g).tdiv 256 ≤ 16000 := by
    generalize x * g = p at hb
    rcases Int.le_total 0 p with h | h
    · rw [Int.tdiv_eq_ediv_of_nonneg h]; omega
    · have : (-p).tdiv 256 = (-p) / 256 := Int.tdiv_eq_ediv_of_nonneg (by omega)
      rw [Int.neg_tdiv] at this
      omega
  exact ⟨_, _, rfl, rfl, ⟨wrapS (by omega), wrapS' (by omega)⟩, ⟨wrapS (by omega), wrapS' (by omega)⟩, hv, hb⟩
theorem gainTimes_is (g x v : Int) (w : World) (hx : -1000 ≤ x ∧ x ≤ 1000) (hg : 1 ≤ g ∧ g ≤ 4096) (hv : (x * g).tdiv 256 = v) :
    Calls Try.prog 51 #[.int .i64 g, .int .i64 x] w fun e w' => e = .returned (.int .i64 v) ∧ w = w' := by
  obtain ⟨p, q, h1, h2, ⟨r1, r1'⟩, ⟨r2, r2'⟩, _, _⟩ := gn_nums hx hg
  obtain rfl : q = v := by rw [← hv, h1, h2]
  have H := Lib.hid hv
  clear hv hx hg
  go_enter Try.func51, Try.ntmps51
  go_wp2
  go_ret
  exact ⟨rfl, rfl⟩
theorem gainStep_is (g s : Int) (w : World) (hg : 1 ≤ g ∧ g ≤ 4096) (hs : mx 1 (g / 16) = s) :
    Calls Try.prog 52 #[.int .i64 g] w fun e w' => e = .returned (.int .i64 s) ∧ w = w' := by
  obtain ⟨q, hq⟩ : ∃ q, q = g / 16 := ⟨_, rfl⟩
  have hq0 : 0 ≤ q ∧ q ≤ 256 := by omega
  have r1 : g.tdiv 16 = q := by rw [Int.tdiv_eq_ediv_of_nonneg (by omega), hq]
  have r2 := wrapS (n := q) (by omega)
  have r2' := wrapS' (n := q) (by omega)
  rw [← hq] at hs
  have H := Lib.hid hs
  clear hs hq
  by_cases h : q < 1
  · obtain rfl : s = 1 := by rw [← H.out]; unfold mx; rw [if_neg (by omega)]
    go_enter Try.func52, Try.ntmps52
    go_wp2
    go_ret
    exact ⟨rfl, rfl⟩
  · obtain rfl : s = q := by rw [← H.out]; unfold mx; split <;> omega
    go_enter Try.func52, Try.ntmps52
    go_wp2
    go_ret
    exact ⟨rfl, rfl⟩
theorem nearest_is (n v : Int) (w : World) (hv : clip (-1000) 1000 n = v) :
    Calls Try.prog 53 #[.int .i64 n] w fun e w' => e = .returned (.int .i64 v) ∧ w = w' := by
  have H := Lib.hid hv
  clear hv
  by_cases h1 : -1000 < n
  · by_cases h2 : 1000 < n
    · obtain rfl : v = 1000 := by rw [← H.out]; unfold clip; rw [if_neg (by omega), if_pos h2]
      go_enter Try.func53, Try.ntmps53
      go_wp2
      go_ret
      exact ⟨rfl, rfl⟩
    · obtain rfl : v = n := by rw [← H.out]; unfold clip; rw [if_neg (by omega), if_neg h2]
      go_enter Try.func53, Try.ntmps53
      go_wp2
      go_ret
      exact ⟨rfl, rfl⟩
  · obtain rfl : v = -1000 := by rw [← H.out]; unfold clip; split <;> (try split) <;> omega
    have h2 : ¬ 1000 < n := by omega
    go_enter Try.func53, Try.ntmps53
    go_wp2
    go_ret
    exact ⟨rfl, rfl⟩
theorem gainAdapted_is (g p u v : Int) (w : World) (hg : 1 ≤ g ∧ g ≤ 4096) (hp : 0 ≤ p ∧ p ≤ 1000) (hv : gnN g p u = v) :
    Calls Try.prog 41 #[.int .i64 g, .int .i64 p, .int .i64 u] w fun e w' => e = .returned (.int .i64 v) ∧ w = w' := by
  obtain ⟨r, hr⟩ : ∃ r, r = p * g / 256 := ⟨_, rfl⟩
  have hpg : 0 ≤ p * g := Int.mul_nonneg hp.1 (by omega)
  have HT := Lib.hid (gainTimes_is g p r w (by omega) hg (by rw [Int.tdiv_eq_ediv_of_nonneg hpg, hr]))
  obtain ⟨s, hs⟩ : ∃ s, s = mx 1 (g / 16) := ⟨_, rfl⟩
  have HS := Lib.hid (gainStep_is g s w hg hs.symm)
  have hs2 : 1 ≤ s ∧ s ≤ 4096 := by rw [hs]; unfold mx; split <;> omega
  unfold gnN at hv
  rw [← hr, ← hs] at hv
  have H := Lib.hid hv
  have r1 := wrapS (n := g + s) (by omega)
  have r1' := wrapS' (n := g + s) (by omega)
  have r2 := wrapS (n := g - s) (by omega)
  have r2' := wrapS' (n := g - s) (by omega)
  clear hv hpg hr hs
  by_cases h1 : p = 0
  · obtain rfl : v = g := by rw [← H.out, if_pos (.inl h1)]
    have z1 : (p == 0) = true := by simp [h1]
    clear hp h1
    go_enter Try.func41, Try.ntmps41
    go_wp2_with (go_at_call 51; ((with_reducible refine HT.out.mono ?_); rintro e w1 ⟨rfl, rfl⟩))
    go_ret
    exact ⟨rfl, rfl⟩
  · have z1 : (p == 0) = false := by simp [h1]
    by_cases h2 : r = u
    · obtain rfl : v = g := by rw [← H.out, if_pos (.inr h2)]
      have z2 : (r == u) = true := by simp [h2]
      clear hp h1 h2
      go_enter Try.func41, Try.ntmps41
      go_wp2_with (go_at_call 51; ((with_reducible refine HT.out.mono ?_); rintro e w1 ⟨rfl, rfl⟩))
      go_ret
      exact ⟨rfl, rfl⟩
    · have z2 : (r == u) = false := by simp [h2]
      have h3 : ¬ (p = 0 ∨ r = u) := by omega
      rw [if_neg h3] at H
      by_cases h4 : r < u
      · rw [if_pos h4] at H
        by_cases h5 : 4096 < g + s
        · obtain rfl : v = 4096 := by rw [← H.out]; unfold clip; rw [if_neg (by omega), if_pos h5]
          clear hp h1 h2 h3
          go_enter Try.func41, Try.ntmps41
          go_wp2_with (first | (go_at_call 51; ((with_reducible refine HT.out.mono ?_); rintro e w1 ⟨rfl, rfl⟩)) | (go_at_call 52; ((with_reducible refine HS.out.mono ?_); rintro e w1 ⟨rfl, rfl⟩)))
          go_ret
          exact ⟨rfl, rfl⟩
        · obtain rfl : v = g + s := by rw [← H.out]; unfold clip; rw [if_neg (by omega), if_neg h5]
          clear hp h1 h2 h3
          go_enter Try.func41, Try.ntmps41
          go_wp2_with (first | (go_at_call 51; ((with_reducible refine HT.out.mono ?_); rintro e w1 ⟨rfl, rfl⟩)) | (go_at_call 52; ((with_reducible refine HS.out.mono ?_); rintro e w1 ⟨rfl, rfl⟩)))
          go_ret
          exact ⟨rfl, rfl⟩
      · rw [if_neg h4] at H
        by_cases h5 : g - s < 1
        · obtain rfl : v = 1 := by rw [← H.out]; unfold clip; rw [if_pos h5]
          clear hp h1 h2 h3
          go_enter Try.func41, Try.ntmps41
          go_wp2_with (first | (go_at_call 51; ((with_reducible refine HT.out.mono ?_); rintro e w1 ⟨rfl, rfl⟩)) | (go_at_call 52; ((with_reducible refine HS.out.mono ?_); rintro e w1 ⟨rfl, rfl⟩)))
          go_ret
          exact ⟨rfl, rfl⟩
        · obtain rfl : v = g - s := by rw [← H.out]; unfold clip; rw [if_neg h5, if_neg (by omega)]
          clear hp h1 h2 h3
          go_enter Try.func41, Try.ntmps41
          go_wp2_with (first | (go_at_call 51; ((with_reducible refine HT.out.mono ?_); rintro e w1 ⟨rfl, rfl⟩)) | (go_at_call 52; ((with_reducible refine HS.out.mono ?_); rintro e w1 ⟨rfl, rfl⟩)))
          go_ret
          exact ⟨rfl, rfl⟩
theorem mx3 (p x : Int) : mx (mx p x) (-x) = mx p (ab x) := by unfold mx ab; repeat' split <;> omega
theorem pk_next {xs : List Int} {k : Nat} {p x y : Int} (hp : p = pkN xs k) (hx : x = el xs k) (hy : (if -x > (if x > p then x else p) then -x else (if x > p then x else p)) = y) : y = pkN xs (k + 1) := by
  rw [← hy, hp, hx]
  show _ = mx (pkN xs k) (ab (el xs k))
  rw [← mx3]
  rfl
set_option maxHeartbeats 1000000 in
theorem peak_is (a : Option Addr) (c B : Nat) (xs : List Int) (w : World) (hx : Ints .i64 w B a xs) (ho : seqOk xs = true) :
    Calls Try.prog 35 #[.slice a xs.length c] w fun e w' => e = .returned (.int .i64 (pkN xs xs.length)) ∧ w = w' := by
  have HX := Lib.hid hx
  have HO := Lib.hid ho
  have hl := seqOk_len ho
  clear hx ho
  go_enter Try.func35, Try.ntmps35
  go_wp2
  go_loop [3, 8] (fun s i => ∃ k : Nat, k ≤ xs.length ∧ i = .int .i64 k ∧ s = .int .i64 (pkN xs k)) (fun _ i => xs.length - (intOf i).toNat)
  case atStart => exact ⟨0, Nat.zero_le _, rfl, rfl⟩
  case round =>
    obtain ⟨k, hk, rfl, rfl⟩ := hrel
    have hk64 : k ≤ 64 := by omega
    by_cases hlt : k < xs.length
    · obtain ⟨b, off, rfl, hb, hc⟩ := HX.out.at_ hlt
      obtain ⟨p, hp⟩ : ∃ p, p = pkN xs k := ⟨_, rfl⟩
      obtain ⟨x, hx⟩ : ∃ x, x = el xs k := ⟨_, rfl⟩
      obtain ⟨y, hy⟩ : ∃ y, (if -x > (if x > p then x else p) then -x else (if x > p then x else p)) = y := ⟨_, rfl⟩
      have hin := seqOk_in HO.out k
      rw [← hx] at hin hc
      rw [← hp]
      have HN := Lib.hid (pk_next hp hx hy)
      have r1 := wrapS (n := -x) (by omega)
      have r1' := wrapS' (n := -x) (by omega)
      clear hp hx hb
      go_wp2
      go_round
      case rel => exact ⟨k + 1, by omega, by go_num, by first | rw [← HN.out] | (rw [← HN.out, ← hy])⟩
      case measure => simp [intOf]; omega
    · obtain rfl : xs.length = k := by omega
      go_wp2
      go_ret
      exact ⟨rfl, rfl⟩
set_option maxHeartbeats 1000000 in
theorem mean_is (a : Option Addr) (c B : Nat) (xs : List Int) (w : World) (hx : Ints .i64 w B a xs) (ho : seqOk xs = true) (h0 : 0 < xs.length) :
    Calls Try.prog 54 #[.slice a xs.length c] w fun e w' => e = .returned (.int .i64 (mn xs)) ∧ w = w' := by
  have HX := Lib.hid hx
  have HO := Lib.hid ho
  have hl := seqOk_len ho
  have HP := Lib.hid h0
  have HS := Lib.hid (fun (k : Nat) (hk : k ≤ 64) => show -1000000000000 ≤ sqS (el xs) k ∧ sqS (el xs) k ≤ 1000000000000 by
    have := sqS_bound (f := el xs) (M := 1000) (n := k) fun i _ => seqOk_in ho i
    omega)
  have HM := Lib.hid (show -1000000000000 ≤ mn xs ∧ mn xs ≤ 1000000000000 by have := mn_in ho h0; omega)
  clear hx ho h0
  go_enter Try.func54, Try.ntmps54
  go_wp2
  go_loop [3, 8] (fun s i => ∃ k : Nat, k ≤ xs.length ∧ i = .int .i64 k ∧ s = .int .i64 (sqS (el xs) k)) (fun _ i => xs.length - (intOf i).toNat)
  case atStart => exact ⟨0, Nat.zero_le _, rfl, rfl⟩
  case round =>
    obtain ⟨k, hk, rfl, rfl⟩ := hrel
    have hk64 : k ≤ 64 := by omega
    by_cases hlt : k < xs.length
    · obtain ⟨b, off, rfl, hb, hc⟩ := HX.out.at_ hlt
      obtain ⟨p, hp⟩ : ∃ p, p = sqS (el xs) k := ⟨_, rfl⟩
      obtain ⟨x, hx⟩ : ∃ x, x = el xs k := ⟨_, rfl⟩
      have hs := HS.out (k + 1) (by omega)
      obtain ⟨s, hs1⟩ : ∃ s, s = sqS (el xs) (k + 1) := ⟨_, rfl⟩
      rw [← hs1] at hs
      have hsum : p + x = s := by rw [hp, hx, hs1]; rfl
      rw [← hx] at hc
      rw [← hp]
      have HN := Lib.hid hs1
      have r1 : IntKind.i64.wrap (p + x) = s := by rw [hsum]; exact wrapS hs
      have r1' : wrap64 (p + x) = s := by rw [hsum]; exact wrapS' hs
      clear hp hx hb hs hs1 hsum
      go_wp2
      go_round
      case rel => exact ⟨k + 1, by omega, by go_num, by first | rw [← HN.out] | (rw [← HN.out, r1'])⟩
      case measure => simp [intOf]; omega
    · obtain rfl : xs.length = k := by omega
      obtain ⟨s, hs⟩ : ∃ s, s = sqS (el xs) xs.length := ⟨_, rfl⟩
      obtain ⟨m, hm⟩ : ∃ m, m = mn xs := ⟨_, rfl⟩
      have h1 := HM.out
      rw [← hm] at h1
      have e : s.tdiv (xs.length : Int) = m := by rw [hs, hm]; rfl
      have r1 := wrapS h1
      have r1' := wrapS' h1
      have hn0 : ¬ xs.length = 0 := by have := HP.out; omega
      rw [← hs]
      have HMm := Lib.hid hm
      clear hs hm h1
      go_wp2
      go_ret
      exact ⟨ret_int HMm.out, rfl⟩
theorem ap_word (xs : List Int) (g : Int) (k : Nat) : ∃ v q : Int, (el xs k * g).tdiv 256 = q ∧ clip (-1000) 1000 q = v ∧ agF g xs k = v := ⟨_, _, rfl, rfl, rfl⟩
theorem agL_mk (g : Int) (xs : List Int) : agL g xs = mkX (agF g xs) xs.length xs.length := by rw [mkX_done]; rfl
theorem rmL_mk (xs : List Int) : rmL xs = mkX (rmF xs) xs.length xs.length := by rw [mkX_done]; rfl
theorem makeGn (n : Nat) (hn : n ≤ 1000000) (w : World) : (Instr.makeSlice 44 (.int .i64 (n : Int)) (.int .i64 (n : Int))).run Try.prog w = .ok (.slice (some ⟨w.heap.size, 0, none⟩) n n) (w.alloc (.cells (madeCells #[.int .i64 0] n) 3)) :=
  run_make_row' (P := Try.prog) 44 3 (.int .i64 0) 8 Try.underlying44 Try.infoInt rfl .i64 .i64 n (by omega) (by omega) w
set_option maxHeartbeats 1000000 in
theorem applied_any (a : Option Addr) (c : Nat) (xs : List Int) (g : Int) (w : World) (hx : Ints .i64 w w.heap.size a xs) (ho : seqOk xs = true) (hg : 1 ≤ g ∧ g ≤ 4096) :
    Calls Try.prog 44 #[.int .i64 g, .slice a xs.length c] w (ListPostC (agL g xs) w) := by
  have HX := Lib.hid hx
  have HO := Lib.hid ho
  have HG := Lib.hid hg
  have hl := seqOk_len ho
  obtain ⟨F, hF⟩ : ∃ F : Nat → Int, F = agF g xs := ⟨_, rfl⟩
  have HD := Lib.hid (show agL g xs = mkX F xs.length xs.length by rw [agL_mk, hF])
  have HFe := Lib.hid (fun i => show F i = agF g xs i by rw [hF])
  have hmk := makeGn xs.length (by omega)
  have R0 := Lib.hid (rowX_made w F xs.length)
  have B0 := Lib.hid (alloc_belowX w (.cells (madeCells #[.int .i64 0] xs.length) 3))
  clear hx ho hg hF
  go_enter Try.func44, Try.ntmps44
  go_wp2
  clear hmk
  go_loopw [13] (fun i wr => ∃ k : Nat, k ≤ xs.length ∧ i = .int .i64 k ∧ RowX wr w.heap.size (mkX F xs.length k) ∧ Below w.heap.size w wr) (fun i _ => xs.length - (intOf i).toNat)
  case atStart => exact ⟨0, Nat.zero_le _, rfl, R0.out, B0.out⟩
  case round =>
    obtain ⟨k, hk, rfl, hrow, hbel⟩ := hrel
    have HR := Lib.hid hrow
    have HB := Lib.hid hbel
    clear hrow hbel R0 B0
    by_cases hlt : k < xs.length
    · obtain ⟨b, off, rfl, hb, hc⟩ := (HX.out.below HB.out).at_ hlt
      have c0 := HR.out.cell (k := k) (by rw [mkX_length]; exact hlt)
      have f0 := HR.out.frozen k
      have HS := HR.out.set (k := k) (by rw [mkX_length]; exact hlt) (F k)
      rw [mkX_set F hlt] at HS
      obtain ⟨v, q, hq, hv, hf⟩ := ap_word xs g k
      rw [HFe.out k, hf] at HS
      have HS := Lib.hid HS
      have HB2 := Lib.hid (HB.out.setCell (p := ⟨w.heap.size, k, none⟩) (Nat.le_refl _) (.int .i64 v))
      have HT := Lib.hid (gainTimes_is g (el xs k) q wr (seqOk_in HO.out k) HG.out hq)
      have HV := Lib.hid (nearest_is q v wr hv)
      generalize el xs k = x at *
      clear hq hv hf hb
      go_wp2_with (first | (go_at_call 51; ((with_reducible refine HT.out.mono ?_); rintro e w1 ⟨rfl, rfl⟩)) | (go_at_call 53; ((with_reducible refine HV.out.mono ?_); rintro e w1 ⟨rfl, rfl⟩)))
      go_roundw
      case rel => exact ⟨k + 1, by omega, by go_num, HS.out, HB2.out⟩
      case measure => simp [intOf]; omega
    · obtain rfl : xs.length = k := by omega
      go_wp2
      go_ret
      rw [HD.out]
      exact rowX_post HR.out (by rw [mkX_length]; unfold maxLen; omega) (Nat.le_refl _) HB.out (by rw [mkX_length])
set_option maxHeartbeats 1000000 in
theorem centred_any (a : Option Addr) (c : Nat) (xs : List Int) (w : World) (hx : Ints .i64 w w.heap.size a xs) (ho : seqOk xs = true) (h0 : 0 < xs.length) :
    Calls Try.prog 45 #[.slice a xs.length c] w (ListPostC (rmL xs) w) := by
  have HX := Lib.hid hx
  have HO := Lib.hid ho
  have HM := Lib.hid (mean_is a c w.heap.size xs w hx ho h0)
  have HMb := Lib.hid (mn_in ho h0)
  have hl := seqOk_len ho
  obtain ⟨F, hF⟩ : ∃ F : Nat → Int, F = rmF xs := ⟨_, rfl⟩
  have HD := Lib.hid (show rmL xs = mkX F xs.length xs.length by rw [rmL_mk, hF])
  have HFe := Lib.hid (fun i => show F i = clip (-1000) 1000 (el xs i - mn xs) by rw [hF]; rfl)
  have hmk := makeGn xs.length (by omega)
  have R0 := Lib.hid (rowX_made w F xs.length)
  have B0 := Lib.hid (alloc_belowX w (.cells (madeCells #[.int .i64 0] xs.length) 3))
  clear hx ho hF h0
  generalize mn xs = m at *
  go_enter Try.func45, Try.ntmps45
  go_wp2_with (go_at_call 54; ((with_reducible refine HM.out.mono ?_); rintro e w1 ⟨rfl, rfl⟩))
  clear hmk
  go_loopw [14] (fun i wr => ∃ k : Nat, k ≤ xs.length ∧ i = .int .i64 k ∧ RowX wr w.heap.size (mkX F xs.length k) ∧ Below w.heap.size w wr) (fun i _ => xs.length - (intOf i).toNat)
  case atStart => exact ⟨0, Nat.zero_le _, rfl, R0.out, B0.out⟩
  case round =>
    obtain ⟨k, hk, rfl, hrow, hbel⟩ := hrel
    have HR := Lib.hid hrow
    have HB := Lib.hid hbel
    clear hrow hbel R0 B0
    by_cases hlt : k < xs.length
    · obtain ⟨b, off, rfl, hb, hc⟩ := (HX.out.below HB.out).at_ hlt
      have c0 := HR.out.cell (k := k) (by rw [mkX_length]; exact hlt)
      have f0 := HR.out.frozen k
      have HS := HR.out.set (k := k) (by rw [mkX_length]; exact hlt) (F k)
      rw [mkX_set F hlt, HFe.out k] at HS
      have hxb := seqOk_in HO.out k
      have hmb := HMb.out
      generalize el xs k = x at *
      obtain ⟨v, hv⟩ : ∃ v, clip (-1000) 1000 (x - m) = v := ⟨_, rfl⟩
      rw [hv] at HS
      have HS := Lib.hid HS
      have HB2 := Lib.hid (HB.out.setCell (p := ⟨w.heap.size, k, none⟩) (Nat.le_refl _) (.int .i64 v))
      have HV := Lib.hid (nearest_is (x - m) v wr hv)
      have r1 := wrapS (n := x - m) (by omega)
      have r1' := wrapS' (n := x - m) (by omega)
      clear hv hb hxb hmb
      go_wp2_with (go_at_call 53; ((with_reducible refine HV.out.mono ?_); rintro e w1 ⟨rfl, rfl⟩))
      go_roundw
      case rel => exact ⟨k + 1, by omega, by go_num, HS.out, HB2.out⟩
      case measure => simp [intOf]; omega
    · obtain rfl : xs.length = k := by omega
      go_wp2
      go_ret
      rw [HD.out]
      exact rowX_post HR.out (by rw [mkX_length]; unfold maxLen; omega) (Nat.le_refl _) HB.out (by rw [mkX_length])
theorem peakOf_any (a : Option Addr) (c B : Nat) (xs : List Int) (w : World) (hx : Ints .i64 w B a xs) :
    Calls Try.prog 13 #[.slice a xs.length c] w fun e w' => e = .returned (.int .i64 (pkOr xs)) ∧ w = w' := by
  have HV := Lib.hid (fun b h => seqValid_is a c B xs w b hx h)
  cases h1 : seqOk xs
  · have H1 := Lib.hid (HV.out false h1)
    have HE := Lib.hid (pkOr_no h1)
    clear hx HV h1
    go_enter Try.func13, Try.ntmps13
    go_wp2_with (go_at_call 34; ((with_reducible refine H1.out.mono ?_); rintro e w' ⟨rfl, rfl⟩))
    go_ret
    exact ⟨ret_int HE.out.symm, rfl⟩
  · have H1 := Lib.hid (HV.out true h1)
    have HE := Lib.hid (pkOr_yes h1)
    have H2 := Lib.hid (peak_is a c B xs w hx h1)
    clear hx HV h1
    generalize pkN xs xs.length = p at *
    go_enter Try.func13, Try.ntmps13
    go_wp2_with (first | (go_at_call 34; ((with_reducible refine H1.out.mono ?_); rintro e w' ⟨rfl, rfl⟩)) | (go_at_call 35; ((with_reducible refine H2.out.mono ?_); rintro e w' ⟨rfl, rfl⟩)))
    go_ret
    exact ⟨ret_int HE.out.symm, rfl⟩
set_option maxHeartbeats 1000000 in
theorem gainStep_any (a : Option Addr) (c B : Nat) (g u : Int) (xs : List Int) (w : World) (hx : Ints .i64 w B a xs) :
    Calls Try.prog 18 #[.int .i64 g, .slice a xs.length c, .int .i64 u] w fun e w' => e = .returned (.int .i64 (gnOr g xs u)) ∧ w = w' := by
  have HV := Lib.hid (fun b h => seqValid_is a c B xs w b hx h)
  cases h0 : gOk g
  · have H0 := Lib.hid (gainValid_is g false w h0)
    have HE := Lib.hid (gnOr_no (g := g) (xs := xs) (wanted := u) fun h => gOk_not h0 h.2.1)
    clear hx HV h0
    go_enter Try.func18, Try.ntmps18
    go_wp2_with (go_at_call 40; ((with_reducible refine H0.out.mono ?_); rintro e w' ⟨rfl, rfl⟩))
    go_ret
    exact ⟨ret_int HE.out.symm, rfl⟩
  · have H0 := Lib.hid (gainValid_is g true w h0)
    cases h1 : seqOk xs
    · have H1 := Lib.hid (HV.out false h1)
      have HE := Lib.hid (gnOr_no (g := g) (xs := xs) (wanted := u) fun h => by have := h.1; rw [h1] at this; cases this)
      clear hx HV h0 h1
      go_enter Try.func18, Try.ntmps18
      go_wp2_with (first | (go_at_call 40; ((with_reducible refine H0.out.mono ?_); rintro e w' ⟨rfl, rfl⟩)) | (go_at_call 34; ((with_reducible refine H1.out.mono ?_); rintro e w' ⟨rfl, rfl⟩)))
      go_ret
      exact ⟨ret_int HE.out.symm, rfl⟩
    · have H1 := Lib.hid (HV.out true h1)
      by_cases h2 : u < 1
      · have HE := Lib.hid (gnOr_no (g := g) (xs := xs) (wanted := u) fun h => by have := h.2.2.1; omega)
        clear hx HV h0 h1
        go_enter Try.func18, Try.ntmps18
        go_wp2_with (first | (go_at_call 40; ((with_reducible refine H0.out.mono ?_); rintro e w' ⟨rfl, rfl⟩)) | (go_at_call 34; ((with_reducible refine H1.out.mono ?_); rintro e w' ⟨rfl, rfl⟩)))
        go_ret
        exact ⟨ret_int HE.out.symm, rfl⟩
      · by_cases h3 : 1000 < u
        · have HE := Lib.hid (gnOr_no (g := g) (xs := xs) (wanted := u) fun h => by have := h.2.2.2; omega)
          clear hx HV h0 h1
          go_enter Try.func18, Try.ntmps18
          go_wp2_with (first | (go_at_call 40; ((with_reducible refine H0.out.mono ?_); rintro e w' ⟨rfl, rfl⟩)) | (go_at_call 34; ((with_reducible refine H1.out.mono ?_); rintro e w' ⟨rfl, rfl⟩)))
          go_ret
          exact ⟨ret_int HE.out.symm, rfl⟩
        · have HE := Lib.hid (gnOr_yes (g := g) (xs := xs) (wanted := u) ⟨h1, gOk_parts h0, by omega, by omega⟩)
          obtain ⟨p, hp⟩ : ∃ p, p = pkN xs xs.length := ⟨_, rfl⟩
          have H2 := peak_is a c B xs w hx h1
          rw [← hp] at H2 HE
          have H2 := Lib.hid H2
          obtain ⟨v, hv⟩ : ∃ v, gnN g p u = v := ⟨_, rfl⟩
          rw [hv] at HE
          have H3 := Lib.hid (gainAdapted_is g p u v w (gOk_parts h0) (by rw [hp]; exact ⟨pkN_pos _ _, pkN_le h1 _⟩) hv)
          clear hx HV h0 h1 hp hv
          go_enter Try.func18, Try.ntmps18
          go_wp2_with (first | (go_at_call 40; ((with_reducible refine H0.out.mono ?_); rintro e w' ⟨rfl, rfl⟩)) | (go_at_call 34; ((with_reducible refine H1.out.mono ?_); rintro e w' ⟨rfl, rfl⟩)) | (go_at_call 35; ((with_reducible refine H2.out.mono ?_); rintro e w' ⟨rfl, rfl⟩)) | (go_at_call 41; ((with_reducible refine H3.out.mono ?_); rintro e w' ⟨rfl, rfl⟩)))
          go_ret
          exact ⟨ret_int HE.out.symm, rfl⟩
set_option maxHeartbeats 1000000 in
theorem applyGain_any (a : Option Addr) (c : Nat) (g : Int) (xs : List Int) (w : World) (hx : Ints .i64 w w.heap.size a xs) :
    Calls Try.prog 21 #[.int .i64 g, .slice a xs.length c] w (ListPostC (agOr g xs) w) := by
  have HV := Lib.hid (fun b h => seqValid_is a c w.heap.size xs w b hx h)
  cases h0 : gOk g
  · have H0 := Lib.hid (gainValid_is g false w h0)
    have HE := Lib.hid (agOr_no (g := g) (xs := xs) fun h => gOk_not h0 h.2)
    clear hx HV h0
    go_enter Try.func21, Try.ntmps21
    go_wp2_with (go_at_call 40; ((with_reducible refine H0.out.mono ?_); rintro e w' ⟨rfl, rfl⟩))
    go_ret
    rw [HE.out]
    exact listPostC_nil (Below.refl _ _)
  · have H0 := Lib.hid (gainValid_is g true w h0)
    cases h1 : seqOk xs
    · have H1 := Lib.hid (HV.out false h1)
      have HE := Lib.hid (agOr_no (g := g) (xs := xs) fun h => by rw [h1] at h; exact absurd h.1 (by decide))
      clear hx HV h0 h1
      go_enter Try.func21, Try.ntmps21
      go_wp2_with (first | (go_at_call 40; ((with_reducible refine H0.out.mono ?_); rintro e w' ⟨rfl, rfl⟩)) | (go_at_call 34; ((with_reducible refine H1.out.mono ?_); rintro e w' ⟨rfl, rfl⟩)))
      go_ret
      rw [HE.out]
      exact listPostC_nil (Below.refl _ _)
    · have H1 := Lib.hid (HV.out true h1)
      have HE := Lib.hid (agOr_yes h1 (gOk_parts h0).1 (gOk_parts h0).2)
      have HC := applied_any a c xs g w hx h1 (gOk_parts h0)
      rw [← HE.out] at HC
      have HC := Lib.hid HC
      clear hx HV h0 h1 HE
      generalize agOr g xs = S at *
      go_enter Try.func21, Try.ntmps21
      go_wp2_with (first | (go_at_call 40; ((with_reducible refine H0.out.mono ?_); rintro e w' ⟨rfl, rfl⟩)) | (go_at_call 34; ((with_reducible refine H1.out.mono ?_); rintro e w' ⟨rfl, rfl⟩)) | (go_at_call 44; ((with_reducible refine HC.out.mono ?_); rintro e w1 hp; have HP := Lib.hid hp; obtain ⟨v1, cv1, rfl, _, _, _⟩ := hp)))
      go_ret
      exact HP.out
set_option maxHeartbeats 1000000 in
theorem removeMean_any (a : Option Addr) (c : Nat) (xs : List Int) (w : World) (hx : Ints .i64 w w.heap.size a xs) :
    Calls Try.prog 26 #[.slice a xs.length c] w (ListPostC (rmOr xs) w) := by
  have HV := Lib.hid (fun b h => seqValid_is a c w.heap.size xs w b hx h)
  cases h1 : seqOk xs
  · have H1 := Lib.hid (HV.out false h1)
    have HE := Lib.hid (rmOr_no (xs := xs) fun h => by rw [h1] at h; exact absurd h.1 (by decide))
    clear hx HV h1
    go_enter Try.func26, Try.ntmps26
    go_wp2_with (go_at_call 34; ((with_reducible refine H1.out.mono ?_); rintro e w' ⟨rfl, rfl⟩))
    go_ret
    rw [HE.out]
    exact listPostC_nil (Below.refl _ _)
  · have H1 := Lib.hid (HV.out true h1)
    by_cases h2 : xs.length = 0
    · have HE := Lib.hid (rmOr_no (xs := xs) fun h => by omega)
      have z1 : ((xs.length : Int) == 0) = true := by simp [h2]
      clear hx HV h1 h2
      go_enter Try.func26, Try.ntmps26
      go_wp2_with (go_at_call 34; ((with_reducible refine H1.out.mono ?_); rintro e w' ⟨rfl, rfl⟩))
      go_ret
      rw [HE.out]
      exact listPostC_nil (Below.refl _ _)
    · have HE := Lib.hid (rmOr_yes h1 (by omega))
      have HC := centred_any a c xs w hx h1 (by omega)
      rw [← HE.out] at HC
      have HC := Lib.hid HC
      have z1 : ((xs.length : Int) == 0) = false := by rw [beq_eq_false_iff_ne]; omega
      clear hx HV h1 h2 HE
      generalize rmOr xs = S at *
      go_enter Try.func26, Try.ntmps26
      go_wp2_with (first | (go_at_call 34; ((with_reducible refine H1.out.mono ?_); rintro e w' ⟨rfl, rfl⟩)) | (go_at_call 45; ((with_reducible refine HC.out.mono ?_); rintro e w1 hp; have HP := Lib.hid hp; obtain ⟨v1, cv1, rfl, _, _, _⟩ := hp)))
      go_ret
      exact HP.out
end Go.Proofs.Ytckjlonlkckhdaa
