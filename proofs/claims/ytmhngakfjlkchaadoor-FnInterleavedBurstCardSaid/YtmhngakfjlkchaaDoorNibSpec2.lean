/-
  What the models of DecodeNibble, EncodeBlocks and DecodeBlocks answer, for every list. Conditions: a list that can be read, a slice's room.
-/
import Derived.Test.YtmhngakfjlkchaaDoorNibSpec
namespace Go.Proofs.YtmhngakfjlkchaaDoor
open Go.RowKit

/-- A row that was written once, as a list. -/
theorem ints_put {w : World} {b cap k : Nat} {t : TypeId} {f : Nat → Value} {xs : List Int} {v : Int} (h : w.rowIs b t cap f) (hf : ∀ i, i < xs.length → f i = .int .i64 (el xs i)) (hl : xs.length ≤ cap) :
    Ints .i64 (w.setCell ⟨b, k, none⟩ (.int .i64 v)) (w.setCell ⟨b, k, none⟩ (.int .i64 v)).heap.size (some ⟨b, 0, none⟩) (xs.set k v) := fun _ => by
  have h2 := h.set k (.int .i64 v)
  refine ⟨b, 0, rfl, h2.lt, fun i hi => ?_⟩
  have hi2 : i < xs.length := by simpa using hi
  rw [Nat.zero_add, h2.cell (by omega)]
  by_cases e : i = k
  · subst e; simp [el, hi2]
  · simp only [e, if_false, hf i hi2]
    have e2 : ¬ k = i := fun x => e x.symm
    simp [el, e2]
theorem ints_cells {w : World} {B b : Nat} {xs : List Int} (h : Ints .i64 w B (some ⟨b, 0, none⟩) xs) {i : Nat} (hi : i < xs.length) : w.cell? ⟨b, i, none⟩ = some (.int .i64 (el xs i)) := by
  obtain ⟨b', off, e, _, hc⟩ := h.at_ hi
  injection e with e
  injection e with e1 e2
  subst e1 e2
  rw [Nat.zero_add] at hc
  exact hc
theorem decPost_mk {xs zs : List Int} {w w' : World} {a : Option Addr} {n cap : Nat} {f : Bool} (hz : decOr xs = zs) (hf : fixOr xs = f) (h : ListPostC zs w (.returned (.slice a n cap)) w') : DecPost xs w (.returned (.tuple #[.slice a n cap, .bool f])) w' := by
  obtain ⟨a', cap', e, h1, h2, h3⟩ := h
  injection e with e
  injection e with e1 e2 e3
  subst e1 e2 e3
  unfold DecPost
  rw [hz, hf]
  exact ⟨a, cap, rfl, h1, h2, h3⟩
set_option maxHeartbeats 1000000 in
theorem specEncodeBlocks_grow (a : Option Addr) (c : Nat) (xs : List Int) (w : World) (hx : Ints .i64 w w.heap.size a xs) (hc : xs.length ≤ c) (hl0 : xs.length ≤ maxLen) :
    Calls Tryd.prog 7 #[.slice a xs.length c] w (GrownList (encB xs) w) := by
  have HX := Lib.hid hx
  have HV := Lib.hid (fun o : Obj => specBitsValid_any a c w.heap.size xs (w.alloc o) (hx.below ((Below.refl w.heap.size w).alloc (Nat.le_refl _) o)) hl0)
  have BA := Lib.hid (fun o : Obj => (Below.refl w.heap.size w).alloc (Nat.le_refl _) o)
  clear hx hl0
  cases hb : bitsOk xs
  · have HE := Lib.hid (encB_no (xs := xs) (by simp [blkOk, hb]))
    rw [hb] at HV
    clear hb
    go_enter Tryd.func7, Tryd.ntmps7
    go_wp2_with (go_at_call 18; ((with_reducible refine (HV.out _).mono ?_); rintro e w1 ⟨rfl, rfl⟩))
    go_ret
    rw [HE.out]
    exact ⟨_, _, _, rfl, Grow.lit0 _ _ _ _ (Nat.le_refl _), BA.out _⟩
  · rw [hb] at HV
    have hlen := bitsOk_length hb
    by_cases h1 : xs.length % 4 = 0
    · have hr : ((xs.length : Int) % 4 != 0) = false := by rw [bne_eq_false_iff_eq]; omega
      by_cases h2 : xs.length ≤ 512
      · have hok : blkOk 4 xs = true := by simp [blkOk, hb, h1, h2]
        have HE := Lib.hid (encB_yes hok)
        have HBi := Lib.hid (bitsOk_all hb)
        obtain ⟨N, hN⟩ : ∃ N, N = xs.length / 4 := ⟨_, rfl⟩
        have HN4 := Lib.hid (show xs.length = 4 * N by omega)
        rw [← hN] at HE
        clear hb hok hN h1
        go_enter Tryd.func7, Tryd.ntmps7
        go_wp2_with (go_at_call 18; ((with_reducible refine (HV.out _).mono ?_); rintro e w1 ⟨rfl, rfl⟩))
        clear hr
        go_loopw [3, 4] (fun s i wr => ∃ (j k n : Nat) (v : Option Addr) (cap : Nat), (j = 4 * k ∧ n = 7 * k ∧ k ≤ N) ∧ i = .int .i64 j ∧ s = .slice v n cap ∧ Grow .i64 3 wr w.heap.size v n cap (encK xs k) ∧ Below w.heap.size w wr) (fun _ i _ => xs.length - (intOf i).toNat)
        case atStart => exact ⟨0, 0, 0, _, _, ⟨rfl, rfl, Nat.zero_le _⟩, rfl, rfl, Grow.lit0 _ _ _ _ (Nat.le_refl _), BA.out _⟩
        case round =>
          obtain ⟨j, k, n, v, cap, ⟨hj, hn, hk⟩, rfl, rfl, hgr, hbel⟩ := hrel
          have HG := Lib.hid hgr
          have HBe := Lib.hid hbel
          have hsz : w.heap.size ≤ wr.heap.size := hbel.size
          have hn9 : n ≤ 896 := by have := HN4.out; omega
          clear hgr hbel
          by_cases hlt : j < xs.length
          · have hkN : 4 * k + 4 ≤ xs.length := by have := HN4.out; omega
            have hj4 : j + 4 ≤ xs.length := by omega
            obtain ⟨b, off, rfl, hbb, _⟩ := HX.out (by intro e; rw [e] at hlt; simp at hlt)
            have h3 := specEncodeNibble_any (some ⟨b, off + 4 * k, none⟩) (c - j) w.heap.size (part 4 xs k) wr (part_ints (HX.out.below HBe.out) hkN) (by rw [part_length hkN]; unfold maxLen; omega)
            rw [part_length hkN, encOr_yes (nibOk_mk (part_length hkN) (part_bits HBi.out)), ← hj] at h3
            have HQ := Lib.hid h3
            have HR := Lib.hid (show j + 4 = 4 * (k + 1) ∧ n + 7 = 7 * (k + 1) ∧ k + 1 ≤ N from ⟨by omega, by omega, by have := HN4.out; omega⟩)
            clear h3 hkN hj hn hk
            go_wp2_with (first
              | (go_at_call 19; refine HQ.out.mono ?_; rintro e w2 ⟨v2, cv2, rfl, _, o2, b2⟩; have I2 := Lib.hid (own_of_list o2).ints; have G2 := Lib.hid (HG.out.below b2); have B2 := Lib.hid (Below.next HBe.out (Nat.le_refl _) b2); have s2 : w.heap.size ≤ w2.heap.size := (by have := b2.size; omega); rw [encW_length]; clear o2 b2)
              | (at_builtin; refine wpList_appendA (.tmp 27) (.tmp 33) w.heap.size v v2 n cap 7 cv2 w2.heap.size (encK xs k) (encW (part 4 xs k)) rfl rfl rfl rfl G2.out I2.out (encW_length _) (by omega) s2 ?_; intro a3 cap3 w3 hg3 hb3 _; have HG3 := Lib.hid hg3; have HB3 := Lib.hid (B2.out.trans hb3); clear hg3 hb3))
            go_roundw
            case rel => exact ⟨j + 4, k + 1, n + 7, a3, cap3, HR.out, by go_num, rfl, HG3.out, HB3.out⟩
            case measure => simp [intOf]; omega
          · have HK := Lib.hid (show k = N by have := HN4.out; omega)
            clear hj hn hk
            go_wp2
            go_ret
            rw [HE.out, ← HK.out]
            exact ⟨_, _, _, rfl, HG.out, HBe.out⟩
      · have HE := Lib.hid (encB_no (xs := xs) (by simp [blkOk, h2]))
        clear hb h1
        go_enter Tryd.func7, Tryd.ntmps7
        go_wp2_with (go_at_call 18; ((with_reducible refine (HV.out _).mono ?_); rintro e w1 ⟨rfl, rfl⟩))
        go_ret
        rw [HE.out]
        exact ⟨_, _, _, rfl, Grow.lit0 _ _ _ _ (Nat.le_refl _), BA.out _⟩
    · have hr : ((xs.length : Int) % 4 != 0) = true := by rw [bne_iff_ne]; omega
      have HE := Lib.hid (encB_no (xs := xs) (by simp [blkOk, h1]))
      clear hb h1
      go_enter Tryd.func7, Tryd.ntmps7
      go_wp2_with (go_at_call 18; ((with_reducible refine (HV.out _).mono ?_); rintro e w1 ⟨rfl, rfl⟩))
      go_ret
      rw [HE.out]
      exact ⟨_, _, _, rfl, Grow.lit0 _ _ _ _ (Nat.le_refl _), BA.out _⟩
theorem specEncodeBlocks_any (a : Option Addr) (c : Nat) (xs : List Int) (w : World) (hx : Ints .i64 w w.heap.size a xs) (hc : xs.length ≤ c) (hl0 : xs.length ≤ maxLen) :
    Calls Tryd.prog 7 #[.slice a xs.length c] w (ListPostC (encB xs) w) :=
  (specEncodeBlocks_grow a c xs w hx hc hl0).mono fun _ _ h => h.post

end Go.Proofs.YtmhngakfjlkchaaDoor
