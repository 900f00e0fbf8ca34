/-
  What the models of AddChips, DespreadSums and DespreadBits answer, for all arguments. Conditions: lists that can be read, their lengths can be.
-/
import Derived.Test.YtnnknfpkbhcghaaWs5
namespace Go.Proofs.Ytnnknfpkbhcghaa
open Go.RowKit

theorem newW_lit0' (w W : World) (h : Below w.heap.size w W) : NewW [] w (.returned (.slice (some ⟨W.heap.size, 0, none⟩) 0 0)) (W.alloc (.cells #[] 3)) := ⟨_, _, _, rfl, Grow.lit0 _ _ _ _ h.size, h.alloc h.size _⟩
theorem l1In_M (x M : Int) (b : Bool) (w : World) (h : (decide (-M ≤ x) && decide (x ≤ M)) = b) : Calls Try.prog 40 #[.int .i64 x, .int .i64 (-M), .int .i64 M] w fun e w' => e = .returned (.bool b) ∧ w = w' := by
  subst h; exact l1In_any x (-M) M w
set_option maxHeartbeats 4000000 in
theorem specAddChips_new (a a' : Option Addr) (c c' : Nat) (xs ys : List Int) (w : World) (hx : Ints .i64 w w.heap.size a xs) (hy : Ints .i64 w w.heap.size a' ys) :
    Calls Try.prog 26 #[.slice a xs.length c, .slice a' ys.length c'] w (NewW (adOr xs ys) w) := by
  have HB0 := Lib.hid (alloc_belowX w (.cells #[] 3))
  have HX := Lib.hid hx
  have HY := Lib.hid hy
  clear hx hy
  by_cases hl : xs.length = ys.length
  · have z : ((xs.length : Int) != (ys.length : Int)) = false := by rw [bne_eq_false_iff_eq]; omega
    by_cases hl2 : xs.length ≤ 256
    · have hl' : ¬ (256 : Int) < (xs.length : Int) := by omega
      have HL := Lib.hid hl2
      have HYl := Lib.hid hl
      have HBad := Lib.hid (fun h => adOr_no (xs := xs) (ys := ys) h)
      have HGood := Lib.hid (fun h3 h4 => adOr_yes hl hl2 h3 h4)
      clear hl hl2
      go_enter Try.func26, Try.ntmps26
      go_wp2
      clear z hl'
      go_loopw [5, 6] (fun s i wr => ∃ (k : Nat) (v : Option Addr) (cap : Nat), k ≤ xs.length ∧ i = .int .i64 k ∧ s = .slice v k cap ∧ Grow .i64 3 wr w.heap.size v k cap ((List.range k).map fun i => el xs i + el ys i) ∧ Below w.heap.size w wr ∧ chTo 1000 xs k ∧ chTo 1000 ys k) (fun _ i _ => xs.length - (intOf i).toNat)
      case atStart => exact ⟨0, _, _, Nat.zero_le _, rfl, rfl, Grow.lit0 _ _ _ _ (Nat.le_refl _), HB0.out, fun i hi => absurd hi (by omega), fun i hi => absurd hi (by omega)⟩
      case round =>
        obtain ⟨k, v, cap, hk, rfl, rfl, hgr, hbel, hc1, hc2⟩ := hrel
        have HG := Lib.hid hgr
        have HB := Lib.hid hbel
        have hsz : w.heap.size ≤ wr.heap.size := hbel.size
        have HC := Lib.hid (And.intro hc1 hc2)
        have hk2 : k ≤ 256 := Nat.le_trans hk HL.out
        clear hgr hbel hc1 hc2
        by_cases hlt : k < xs.length
        · have hlt2 : k < ys.length := by have := HYl.out; omega
          obtain ⟨b, off, rfl, hb, hc⟩ := (HX.out.below HB.out).at_ hlt
          obtain ⟨b', off', rfl, hb', hc'⟩ := (HY.out.below HB.out).at_ hlt2
          cases h1 : (decide (-1000 ≤ el xs k) && decide (el xs k ≤ 1000))
          · have H1 := Lib.hid (fun W => l1In_M (el xs k) 1000 false W h1)
            have HE := Lib.hid (HBad.out fun h => by
              have := chOk_in (by decide) h.2.2.1 k
              simp [this.1, this.2] at h1)
            have HN := Lib.hid (newW_lit0' w wr HB.out)
            clear h1 hb hb'
            go_wp2_with (go_at_call 40; ((with_reducible refine (H1.out _).mono ?_); rintro e w1 ⟨rfl, rfl⟩))
            go_ret
            rw [HE.out]
            exact HN.out
          · have H1 := Lib.hid (fun W => l1In_M (el xs k) 1000 true W h1)
            cases h2 : (decide (-1000 ≤ el ys k) && decide (el ys k ≤ 1000))
            · have H2 := Lib.hid (fun W => l1In_M (el ys k) 1000 false W h2)
              have HE := Lib.hid (HBad.out fun h => by
                have := chOk_in (by decide) h.2.2.2 k
                simp [this.1, this.2] at h2)
              have HN := Lib.hid (newW_lit0' w wr HB.out)
              clear h1 h2 hb hb'
              go_wp2_with (first | (go_at_call 40; ((with_reducible refine (H1.out _).mono ?_); rintro e w1 ⟨rfl, rfl⟩)) | (go_at_call 40; ((with_reducible refine (H2.out _).mono ?_); rintro e w1 ⟨rfl, rfl⟩)))
              go_ret
              rw [HE.out]
              exact HN.out
            · have H2 := Lib.hid (fun W => l1In_M (el ys k) 1000 true W h2)
              have i1 : -1000 ≤ el xs k ∧ el xs k ≤ 1000 := by simpa using h1
              have i2 : -1000 ≤ el ys k ∧ el ys k ≤ 1000 := by simpa using h2
              have HN := Lib.hid (map_one (fun i => el xs i + el ys i) k)
              have HC2 := Lib.hid (And.intro (chTo_next HC.out.1 i1) (chTo_next HC.out.2 i2))
              have q1 : IntKind.i64.wrap (el xs k + el ys k) = el xs k + el ys k := wrapW (by omega)
              have q1' : wrap64 (el xs k + el ys k) = el xs k + el ys k := wrapW' (by omega)
              generalize (List.range k).map (fun i => el xs i + el ys i) = zs at *
              generalize el xs k = x at *
              generalize el ys k = y at *
              clear h1 h2 hb hb' i1 i2
              go_wp2_with (first | (go_at_call 40; ((with_reducible refine (H1.out _).mono ?_); rintro e w1 ⟨rfl, rfl⟩)) | (go_at_call 40; ((with_reducible refine (H2.out _).mono ?_); rintro e w1 ⟨rfl, rfl⟩)))
              go_region_law (refine step_append1 (.tmp 40) (.tmp 50) w.heap.size v k cap zs ⟨wr.heap.size, 0, none⟩ (x + y) rfl rfl rfl rfl (HG.out.alloc _).drew (by simp) (by omega) (by simp; omega) ?_; intro a2 cap2 w2 hg2 hb2; have HG2 := Lib.hid hg2; have HB2 := Lib.hid hb2; clear hg2 hb2)
              all_goals
                go_wp2
                go_roundw
                case rel => exact ⟨k + 1, a2, cap2, by omega, by go_num, rfl, by rw [HN.out]; exact HG2.out, (HB.out.alloc hsz _).drew.trans HB2.out, HC2.out.1, HC2.out.2⟩
                case measure => simp [intOf]; omega
        · obtain rfl : xs.length = k := by omega
          have HE := Lib.hid (HGood.out (chOk_good HC.out.1) (chOk_good (by rw [← HYl.out]; exact HC.out.2)))
          go_wp2
          go_ret
          rw [HE.out]
          exact ⟨_, _, _, rfl, HG.out, HB.out⟩
    · have HE := Lib.hid (adOr_no (xs := xs) (ys := ys) fun h => hl2 h.2.1)
      have hl' : (256 : Int) < (xs.length : Int) := by omega
      have HN := Lib.hid (newW_lit0' w w (Below.refl _ _))
      clear hl hl2
      go_enter Try.func26, Try.ntmps26
      go_wp2
      go_ret
      rw [HE.out]
      exact HN.out
  · have HE := Lib.hid (adOr_no (xs := xs) (ys := ys) fun h => hl h.1)
    have z : ((xs.length : Int) != (ys.length : Int)) = true := by rw [bne_iff_ne]; omega
    have HN := Lib.hid (newW_lit0' w w (Below.refl _ _))
    clear hl
    go_enter Try.func26, Try.ntmps26
    go_wp2
    go_ret
    rw [HE.out]
    exact HN.out
theorem specAddChips_any (a a' : Option Addr) (c c' : Nat) (xs ys : List Int) (w : World) (hx : Ints .i64 w w.heap.size a xs) (hy : Ints .i64 w w.heap.size a' ys) (_hl : xs.length ≤ maxLen) (_hl' : ys.length ≤ maxLen) :
    Calls Try.prog 26 #[.slice a xs.length c, .slice a' ys.length c'] w (ListPostC (adOr xs ys) w) :=
  (specAddChips_new a a' c c' xs ys w hx hy).mono fun _ _ h => h.post
end Go.Proofs.Ytnnknfpkbhcghaa
