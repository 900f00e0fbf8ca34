/-
  What the model's AddBits answers, for every two lists.
-/
import Derived.Test.YtamfjmfffpdcfaaSpec1
import Derived.Test.YtamfjmfffpdcfaaGrow
namespace Go.Proofs.Ytamfjmfffpdcfaa
open Go.RowKit

theorem bitList_succ (f : Nat → Bool) (k : Nat) : bitList f (k + 1) = bitList f k ++ [((f k).toNat : Int)] := by
  simp only [bitList, List.range_succ, List.map_append, List.map_cons, List.map_nil]
  cases f k <;> rfl
theorem listPost_grow {xs : List Int} {w w' : World} {a : Option Addr} {n cap : Nat} (h : Grow .i64 3 w' w.heap.size a n cap xs) (hb : Below w.heap.size w w') : ListPost xs w (.returned (.slice a n cap)) w' := by
  have hl := h.len
  refine ⟨a, cap, by rw [hl], fun hne => ?_, hb⟩
  have hp : 0 < n := by rw [← hl]; exact List.length_pos_iff.2 hne
  obtain ⟨b, f, rfl, h1, _, h3, h4, h5⟩ := h.row hp
  exact ⟨b, cap, rfl, h1, by omega, f, h4, fun i hi => h5 i (by omega)⟩
theorem Grow.room {k : IntKind} {t : TypeId} {w : World} {base n cap : Nat} {a : Option Addr} {xs : List Int} (h : Grow k t w base a n cap xs) : n ≤ cap ∧ cap ≤ maxLen := by
  rcases h.2 with ⟨e, h0⟩ | ⟨g, c, cur, e, hg, hh, hnc, hcm, _⟩
  · injection e with _ _ e3; rw [h0, e3]; exact ⟨Nat.le_refl _, Nat.zero_le _⟩
  · injection e with _ _ e3; rw [e3]; exact ⟨hnc, hcm⟩
theorem listPostC_grow {xs : List Int} {w w' : World} {a : Option Addr} {n cap : Nat} (h : Grow .i64 3 w' w.heap.size a n cap xs) (hb : Below w.heap.size w w') : ListPostC xs w (.returned (.slice a n cap)) w' := by
  have hr := h.room
  have hl := h.len
  refine ⟨a, cap, by rw [hl], ⟨by rw [hl]; exact hr.1, hr.2⟩, fun hne => ?_, hb⟩
  have hp : 0 < n := by rw [← hl]; exact List.length_pos_iff.2 hne
  obtain ⟨b, f, rfl, h1, _, h3, h4, h5⟩ := h.row hp
  exact ⟨b, cap, rfl, h1, by omega, f, h4, fun i hi => h5 i (by omega)⟩

set_option maxHeartbeats 1000000 in
theorem specAddBits_any (a a' : Option Addr) (c c' B B' : Nat) (xs ys : List Int) (w : World) (hx : Ints .i64 w B a xs) (hy : Ints .i64 w B' a' ys) (hB : B ≤ w.heap.size) (hB' : B' ≤ w.heap.size) (hl : xs.length ≤ maxLen) (hl' : ys.length ≤ maxLen) :
    Calls Try.prog 29 #[.slice a xs.length c, .slice a' ys.length c'] w (ListPost (sumOr xs ys) w) := by
  have HX := Lib.hid (hx.more hB)
  have HY := Lib.hid (hy.more hB')
  have HL := Lib.hid hl
  have HL' := Lib.hid hl'
  clear hx hy hl hl'
  have hal := fun o : Obj => (Below.refl w.heap.size w).alloc (Nat.le_refl _) o
  have HXa := Lib.hid fun o : Obj => HX.out.below (hal o)
  have HYa := Lib.hid fun o : Obj => HY.out.below (hal o)
  clear hal
  cases h1 : bitsOk xs
  · have HD := Lib.hid (show sumOr xs ys = [] by simp [sumOr, pairOk, h1])
    go_enter Try.func29, Try.ntmps29
    go_wp2_with (go_at_call 45; ((with_reducible refine (specBitsValid_any a c w.heap.size xs _ (HXa.out _) HL.out).mono ?_); rintro e w' ⟨rfl, rfl⟩))
    go_ret
    rw [HD.out]
    exact listPost_grow (Grow.lit0 _ _ _ _ (Nat.le_refl _)) ((Below.refl _ _).alloc (Nat.le_refl _) _)
  · cases h2 : bitsOk ys
    · have HD := Lib.hid (show sumOr xs ys = [] by simp [sumOr, pairOk, h1, h2])
      go_enter Try.func29, Try.ntmps29
      go_wp2_with (first | (go_at_call 45; ((with_reducible refine (specBitsValid_any a c w.heap.size xs _ (HXa.out _) HL.out).mono ?_); rintro e w' ⟨rfl, rfl⟩)) | (go_at_call 45; ((with_reducible refine (specBitsValid_any a' c' w.heap.size ys _ (HYa.out _) HL'.out).mono ?_); rintro e w' ⟨rfl, rfl⟩)))
      go_ret
      rw [HD.out]
      exact listPost_grow (Grow.lit0 _ _ _ _ (Nat.le_refl _)) ((Below.refl _ _).alloc (Nat.le_refl _) _)
    · by_cases hlen : xs.length = ys.length
      · have HP := Lib.hid (show pairOk xs ys = true by simp [pairOk, h1, h2, hlen])
        have hne : ((xs.length : Int) != (ys.length : Int)) = false := by simp [hlen]
        have hb := bitsOk_length h1
        have HLen := Lib.hid hlen
        clear hlen
        go_enter Try.func29, Try.ntmps29
        go_wp2_with (first | (go_at_call 45; ((with_reducible refine (specBitsValid_any a c w.heap.size xs _ (HXa.out _) HL.out).mono ?_); rintro e w' ⟨rfl, rfl⟩)) | (go_at_call 45; ((with_reducible refine (specBitsValid_any a' c' w.heap.size ys _ (HYa.out _) HL'.out).mono ?_); rintro e w' ⟨rfl, rfl⟩)))
        clear hne
        go_loopw [5, 6] (fun s i wr => ∃ (k : Nat) (v : Option Addr) (cap : Nat), k ≤ xs.length ∧ i = .int .i64 k ∧ s = .slice v k cap ∧ Grow .i64 3 wr w.heap.size v k cap (bitList (xorF xs ys) k) ∧ Below w.heap.size w wr) (fun _ i _ => xs.length - (intOf i).toNat)
        case atStart => exact ⟨0, _, _, Nat.zero_le _, rfl, rfl, Grow.lit0 _ _ _ _ (Nat.le_refl _), (Below.refl _ _).alloc (Nat.le_refl _) _⟩
        case round =>
          obtain ⟨k, v, cap, hk, rfl, rfl, hgr, hbel⟩ := hrel
          have HG := Lib.hid hgr
          have HBe := Lib.hid hbel
          clear hgr hbel
          by_cases hlt : k < xs.length
          · obtain ⟨b, off, rfl, hb', hc⟩ := (HX.out.below HBe.out).at_ hlt
            obtain ⟨b', off', rfl, hb'', hc'⟩ := (HY.out.below HBe.out).at_ (i := k) (by have := HLen.out; omega)
            have hlt' : k < ys.length := by have := HLen.out; omega
            have hxor := xor_el HP.out hlt
            have hsz : w.heap.size ≤ wr.heap.size := HBe.out.size
            go_wp2
            go_region_law (refine step_append1 (.tmp 30) (.tmp 40) w.heap.size v k cap (bitList (xorF xs ys) k) ⟨wr.heap.size, 0, none⟩ ((xorF xs ys k).toNat : Int) rfl rfl rfl rfl (HG.out.alloc _).drew (by simp) (by omega) (by simp; omega) ?_; intro a2 cap2 w2 hg2 hb2; have HG2 := Lib.hid hg2; have HB2 := Lib.hid hb2; clear hg2 hb2)
            all_goals
              go_wp2
              go_roundw
              case rel => exact ⟨k + 1, a2, cap2, by omega, by go_num, rfl, by rw [bitList_succ]; exact HG2.out, (HBe.out.alloc hsz _).drew.trans HB2.out⟩
              case measure => simp [intOf]; omega
          · obtain rfl : xs.length = k := by omega
            have HD := Lib.hid (show sumOr xs ys = bitList (xorF xs ys) xs.length by simp [sumOr, HP.out, sumBits])
            go_wp2
            go_ret
            rw [HD.out]
            exact listPost_grow HG.out HBe.out
      · have HD := Lib.hid (show sumOr xs ys = [] by simp [sumOr, pairOk, h1, h2, hlen])
        have hne : ((xs.length : Int) != (ys.length : Int)) = true := by simp; omega
        clear hlen
        go_enter Try.func29, Try.ntmps29
        go_wp2_with (first | (go_at_call 45; ((with_reducible refine (specBitsValid_any a c w.heap.size xs _ (HXa.out _) HL.out).mono ?_); rintro e w' ⟨rfl, rfl⟩)) | (go_at_call 45; ((with_reducible refine (specBitsValid_any a' c' w.heap.size ys _ (HYa.out _) HL'.out).mono ?_); rintro e w' ⟨rfl, rfl⟩)))
        go_ret
        rw [HD.out]
        exact listPost_grow (Grow.lit0 _ _ _ _ (Nat.le_refl _)) ((Below.refl _ _).alloc (Nat.le_refl _) _)
end Go.Proofs.Ytamfjmfffpdcfaa
