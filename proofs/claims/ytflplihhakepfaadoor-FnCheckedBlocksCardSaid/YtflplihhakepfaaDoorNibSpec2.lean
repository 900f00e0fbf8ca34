/-
  What the models of DecodeNibble, EncodeBlocks and DecodeBlocks answer, for every list. Conditions: a list that can be read, a slice's room.
-/
import Derived.Test.YtflplihhakepfaaDoorNibSpec
namespace Go.Proofs.YtflplihhakepfaaDoor
open Go.RowKit

/-- A row that was written once, as a list. -/
theorem ints_put {w : World} {b cap k : Nat} {t : TypeId} {f : Nat → Value} {xs : List Int} {v : Int} (h : w.rowIs b t cap f) (hf : ∀ i, i < xs.length → f i = .int .i64 (el xs i)) (hl : xs.length ≤ cap) :
    Ints .i64 (w.setCell ⟨b, k, none⟩ (.int .i64 v)) (w.setCell ⟨b, k, none⟩ (.int .i64 v)).heap.size (some ⟨b, 0, none⟩) (xs.set k v) := fun _ => by
  have h2 := h.set k (.int .i64 v)
  refine ⟨b, 0, rfl, h2.lt, fun i hi => ?_⟩
  have hi2 : i < xs.length := by simpa using hi
  rw [Nat.zero_add, h2.cell (by omega)]
  by_cases e : i = k
  · subst e; simp [el, hi2]
  · simp only [e, if_false, hf i hi2]
    have e2 : ¬ k = i := fun x => e x.symm
    simp [el, e2]
theorem ints_cells {w : World} {B b : Nat} {xs : List Int} (h : Ints .i64 w B (some ⟨b, 0, none⟩) xs) {i : Nat} (hi : i < xs.length) : w.cell? ⟨b, i, none⟩ = some (.int .i64 (el xs i)) := by
  obtain ⟨b', off, e, _, hc⟩ := h.at_ hi
  injection e with e
  injection e with e1 e2
  subst e1 e2
  rw [Nat.zero_add] at hc
  exact hc
theorem decPost_mk {xs zs : List Int} {w w' : World} {a : Option Addr} {n cap : Nat} {f : Bool} (hz : decOr xs = zs) (hf : fixOr xs = f) (h : ListPostC zs w (.returned (.slice a n cap)) w') : DecPost xs w (.returned (.tuple #[.slice a n cap, .bool f])) w' := by
  obtain ⟨a', cap', e, h1, h2, h3⟩ := h
  injection e with e
  injection e with e1 e2 e3
  subst e1 e2 e3
  unfold DecPost
  rw [hz, hf]
  exact ⟨a, cap, rfl, h1, h2, h3⟩
set_option maxHeartbeats 1000000 in
theorem specDecodeNibble_any (a : Option Addr) (c : Nat) (xs : List Int) (w : World) (hx : Ints .i64 w w.heap.size a xs) (hl0 : xs.length ≤ maxLen) :
    Calls Tryd.prog 22 #[.slice a xs.length c] w (DecPost xs w) := by
  have hv := specSyndromeOf_any a c w.heap.size xs w hx hl0
  clear hl0
  cases hok : wordOk xs
  · have HE := Lib.hid (show decOr xs = [] by simp [decOr, hok])
    have HF := Lib.hid (show fixOr xs = false by simp [fixOr, hok])
    rw [show synOr xs = -1 by simp [synOr, hok]] at hv
    have HV := Lib.hid hv
    clear hv hx hok
    go_enter Tryd.func22, Tryd.ntmps22
    go_wp2_with (go_at_call 20; refine HV.out.mono ?_; rintro e w1 ⟨rfl, rfl⟩)
    go_ret2
    exact decPost_mk HE.out HF.out (listPostC_lit (xs := []) (Below.refl _ _) rfl (by simp))
  · obtain ⟨hl, hb⟩ := wordOk_parts hok
    have HE := Lib.hid (show decOr xs = pickW (fixW xs) by simp [decOr, hok, decW])
    have HF := Lib.hid (show fixOr xs = decide (syn xs ≠ 0) by simp [fixOr, hok])
    have HFl := Lib.hid (show (fixW xs).length = 7 by rw [fixW_length, hl])
    rw [show synOr xs = (syn xs : Int) by simp [synOr, hok], hl] at hv
    rw [hl]
    have VA := Lib.hid (fun o : Obj => hx.below ((Below.refl w.heap.size w).alloc (Nat.le_refl _) o))
    have BA := Lib.hid (fun o : Obj => (Below.refl w.heap.size w).alloc (Nat.le_refl _) o)
    have HL := Lib.hid hl
    have hs8 := syn_lt xs
    by_cases hs : syn xs = 0
    · have HX : Hid (fixW xs = xs) := by show _ = _; simp [fixW, hs]
      rw [decide_eq_false (by simp [hs])] at HF
      rw [hs] at hv
      have HV := Lib.hid hv
      clear hv hx hok hl hb hs hs8
      go_enter Tryd.func22, Tryd.ntmps22
      go_wp2_with (first
        | (go_at_call 20; refine HV.out.mono ?_; rintro e w1 ⟨rfl, rfl⟩)
        | (at_builtin; refine wpList_appendA (.tmp 11) (.tmp 12) w.heap.size (some ⟨w.heap.size, 0, none⟩) a 0 0 7 c w.heap.size [] xs rfl rfl rfl rfl (Grow.lit0 _ _ _ _ (Nat.le_refl _)) (VA.out _) HL.out (by omega) (by simp) ?_; intro a6 cap6 w6 hg6 hb6 _; rw [Nat.zero_add, List.nil_append] at hg6; have HB6 := Lib.hid ((BA.out _).trans hb6); obtain ⟨b6, f6, rfl, hw6, hb6b, hn6, hrow6, hf6⟩ := hg6.row (by omega); have I6 := Lib.hid hg6.ints; clear hg6 hb6 hrow6 hf6))
      have hc2 : w6.cell? ⟨b6, 2, none⟩ = some (.int .i64 (el (fixW xs) 2)) := by rw [HX.out]; exact ints_cells I6.out (by rw [HL.out]; omega)
      have hc4 : w6.cell? ⟨b6, 4, none⟩ = some (.int .i64 (el (fixW xs) 4)) := by rw [HX.out]; exact ints_cells I6.out (by rw [HL.out]; omega)
      have hc5 : w6.cell? ⟨b6, 5, none⟩ = some (.int .i64 (el (fixW xs) 5)) := by rw [HX.out]; exact ints_cells I6.out (by rw [HL.out]; omega)
      have hc6 : w6.cell? ⟨b6, 6, none⟩ = some (.int .i64 (el (fixW xs) 6)) := by rw [HX.out]; exact ints_cells I6.out (by rw [HL.out]; omega)
      clear HX I6
      go_region
      all_goals
        go_wp2
        go_ret2
        exact decPost_mk HE.out HF.out (listPostC_lit (xs := pickW (fixW xs)) (below_drewN HB6.out _) rfl (by simp [pickW]))
    · obtain ⟨p, hp⟩ : ∃ p, syn xs = p + 1 := ⟨syn xs - 1, by omega⟩
      have hp7 : p < 7 := by omega
      have HX : Hid (fixW xs = xs.set p (1 - el xs p)) := by show _ = _; simp [fixW, hp]
      rw [decide_eq_true hs] at HF
      rw [hp, show ((p + 1 : Nat) : Int) = (p : Int) + 1 by omega] at hv
      obtain ⟨x, hxx⟩ : ∃ x, x = el xs p := ⟨_, rfl⟩
      have hx01 : x = 0 ∨ x = 1 := by rw [hxx]; exact bit_cases (bitsOk_mk hb (by omega)) (by omega)
      have hx0 : 0 ≤ x := by omega
      have hx1 : x ≤ 1 := by omega
      rw [← hxx] at HX
      have HXx := Lib.hid hxx
      have HV := Lib.hid hv
      clear hv hx hok hl hb hs hs8 hp hxx hx01
      go_enter Tryd.func22, Tryd.ntmps22
      go_wp2_with (first
        | (go_at_call 20; refine HV.out.mono ?_; rintro e w1 ⟨rfl, rfl⟩)
        | (at_builtin; refine wpList_appendA (.tmp 11) (.tmp 12) w.heap.size (some ⟨w.heap.size, 0, none⟩) a 0 0 7 c w.heap.size [] xs rfl rfl rfl rfl (Grow.lit0 _ _ _ _ (Nat.le_refl _)) (VA.out _) HL.out (by omega) (by simp) ?_; intro a6 cap6 w6 hg6 hb6 _; rw [Nat.zero_add, List.nil_append] at hg6; have HB6 := Lib.hid ((BA.out _).trans hb6); obtain ⟨b6, f6, rfl, hw6, hb6b, hn6, hrow6, hf6⟩ := hg6.row (by omega); have hcp6 : w6.cell? ⟨b6, p, none⟩ = some (.int .i64 x) := (by rw [hrow6.cell (by omega), hf6 p hp7, HXx.out]); have hfz6 := hrow6.frozen p; have HI7 := Lib.hid (ints_put (k := p) (v := 1 - x) (xs := xs) hrow6 (by rw [HL.out]; exact hf6) (by rw [HL.out]; exact hn6)); have HB7 := Lib.hid (HB6.out.setCell (p := ⟨b6, p, none⟩) hw6 (.int .i64 (1 - x))); rw [← HX.out] at HI7; clear hg6 hb6 hrow6 hf6 HB6))
      clear hcp6 hfz6
      generalize w6.setCell ⟨b6, p, none⟩ (.int .i64 (1 - x)) = w7 at *
      have hc2 : w7.cell? ⟨b6, 2, none⟩ = some (.int .i64 (el (fixW xs) 2)) := ints_cells HI7.out (by rw [HFl.out]; omega)
      have hc4 : w7.cell? ⟨b6, 4, none⟩ = some (.int .i64 (el (fixW xs) 4)) := ints_cells HI7.out (by rw [HFl.out]; omega)
      have hc5 : w7.cell? ⟨b6, 5, none⟩ = some (.int .i64 (el (fixW xs) 5)) := ints_cells HI7.out (by rw [HFl.out]; omega)
      have hc6 : w7.cell? ⟨b6, 6, none⟩ = some (.int .i64 (el (fixW xs) 6)) := ints_cells HI7.out (by rw [HFl.out]; omega)
      clear HX HI7
      go_region
      all_goals
        go_wp2
        go_ret2
        exact decPost_mk HE.out HF.out (listPostC_lit (xs := pickW (fixW xs)) (below_drewN HB7.out _) rfl (by simp [pickW]))

set_option maxHeartbeats 1000000 in
theorem specEncodeBlocks_grow (a : Option Addr) (c : Nat) (xs : List Int) (w : World) (hx : Ints .i64 w w.heap.size a xs) (hc : xs.length ≤ c) (hl0 : xs.length ≤ maxLen) :
    Calls Tryd.prog 25 #[.slice a xs.length c] w (GrownList (encB xs) w) := by
  have HX := Lib.hid hx
  have HV := Lib.hid (fun o : Obj => specBitsValid_any a c w.heap.size xs (w.alloc o) (hx.below ((Below.refl w.heap.size w).alloc (Nat.le_refl _) o)) hl0)
  have BA := Lib.hid (fun o : Obj => (Below.refl w.heap.size w).alloc (Nat.le_refl _) o)
  clear hx hl0
  cases hb : bitsOk xs
  · have HE := Lib.hid (encB_no (xs := xs) (by simp [blkOk, hb]))
    rw [hb] at HV
    clear hb
    go_enter Tryd.func25, Tryd.ntmps25
    go_wp2_with (go_at_call 35; ((with_reducible refine (HV.out _).mono ?_); rintro e w1 ⟨rfl, rfl⟩))
    go_ret
    rw [HE.out]
    exact ⟨_, _, _, rfl, Grow.lit0 _ _ _ _ (Nat.le_refl _), BA.out _⟩
  · rw [hb] at HV
    have hlen := bitsOk_length hb
    by_cases h1 : xs.length % 4 = 0
    · have hr : ((xs.length : Int) % 4 != 0) = false := by rw [bne_eq_false_iff_eq]; omega
      by_cases h2 : xs.length ≤ 512
      · have hok : blkOk 4 xs = true := by simp [blkOk, hb, h1, h2]
        have HE := Lib.hid (encB_yes hok)
        have HBi := Lib.hid (bitsOk_all hb)
        obtain ⟨N, hN⟩ : ∃ N, N = xs.length / 4 := ⟨_, rfl⟩
        have HN4 := Lib.hid (show xs.length = 4 * N by omega)
        rw [← hN] at HE
        clear hb hok hN h1
        go_enter Tryd.func25, Tryd.ntmps25
        go_wp2_with (go_at_call 35; ((with_reducible refine (HV.out _).mono ?_); rintro e w1 ⟨rfl, rfl⟩))
        clear hr
        go_loopw [3, 4] (fun s i wr => ∃ (j k n : Nat) (v : Option Addr) (cap : Nat), (j = 4 * k ∧ n = 7 * k ∧ k ≤ N) ∧ i = .int .i64 j ∧ s = .slice v n cap ∧ Grow .i64 3 wr w.heap.size v n cap (encK xs k) ∧ Below w.heap.size w wr) (fun _ i _ => xs.length - (intOf i).toNat)
        case atStart => exact ⟨0, 0, 0, _, _, ⟨rfl, rfl, Nat.zero_le _⟩, rfl, rfl, Grow.lit0 _ _ _ _ (Nat.le_refl _), BA.out _⟩
        case round =>
          obtain ⟨j, k, n, v, cap, ⟨hj, hn, hk⟩, rfl, rfl, hgr, hbel⟩ := hrel
          have HG := Lib.hid hgr
          have HBe := Lib.hid hbel
          have hsz : w.heap.size ≤ wr.heap.size := hbel.size
          have hn9 : n ≤ 896 := by have := HN4.out; omega
          clear hgr hbel
          by_cases hlt : j < xs.length
          · have hkN : 4 * k + 4 ≤ xs.length := by have := HN4.out; omega
            have hj4 : j + 4 ≤ xs.length := by omega
            obtain ⟨b, off, rfl, hbb, _⟩ := HX.out (by intro e; rw [e] at hlt; simp at hlt)
            have h3 := specEncodeNibble_any (some ⟨b, off + 4 * k, none⟩) (c - j) w.heap.size (part 4 xs k) wr (part_ints (HX.out.below HBe.out) hkN) (by rw [part_length hkN]; unfold maxLen; omega)
            rw [part_length hkN, encOr_yes (nibOk_mk (part_length hkN) (part_bits HBi.out)), ← hj] at h3
            have HQ := Lib.hid h3
            have HR := Lib.hid (show j + 4 = 4 * (k + 1) ∧ n + 7 = 7 * (k + 1) ∧ k + 1 ≤ N from ⟨by omega, by omega, by have := HN4.out; omega⟩)
            clear h3 hkN hj hn hk
            go_wp2_with (first
              | (go_at_call 13; refine HQ.out.mono ?_; rintro e w2 ⟨v2, cv2, rfl, _, o2, b2⟩; have I2 := Lib.hid (own_of_list o2).ints; have G2 := Lib.hid (HG.out.below b2); have B2 := Lib.hid (Below.next HBe.out (Nat.le_refl _) b2); have s2 : w.heap.size ≤ w2.heap.size := (by have := b2.size; omega); rw [encW_length]; clear o2 b2)
              | (at_builtin; refine wpList_appendA (.tmp 27) (.tmp 33) w.heap.size v v2 n cap 7 cv2 w2.heap.size (encK xs k) (encW (part 4 xs k)) rfl rfl rfl rfl G2.out I2.out (encW_length _) (by omega) s2 ?_; intro a3 cap3 w3 hg3 hb3 _; have HG3 := Lib.hid hg3; have HB3 := Lib.hid (B2.out.trans hb3); clear hg3 hb3))
            go_roundw
            case rel => exact ⟨j + 4, k + 1, n + 7, a3, cap3, HR.out, by go_num, rfl, HG3.out, HB3.out⟩
            case measure => simp [intOf]; omega
          · have HK := Lib.hid (show k = N by have := HN4.out; omega)
            clear hj hn hk
            go_wp2
            go_ret
            rw [HE.out, ← HK.out]
            exact ⟨_, _, _, rfl, HG.out, HBe.out⟩
      · have HE := Lib.hid (encB_no (xs := xs) (by simp [blkOk, h2]))
        clear hb h1
        go_enter Tryd.func25, Tryd.ntmps25
        go_wp2_with (go_at_call 35; ((with_reducible refine (HV.out _).mono ?_); rintro e w1 ⟨rfl, rfl⟩))
        go_ret
        rw [HE.out]
        exact ⟨_, _, _, rfl, Grow.lit0 _ _ _ _ (Nat.le_refl _), BA.out _⟩
    · have hr : ((xs.length : Int) % 4 != 0) = true := by rw [bne_iff_ne]; omega
      have HE := Lib.hid (encB_no (xs := xs) (by simp [blkOk, h1]))
      clear hb h1
      go_enter Tryd.func25, Tryd.ntmps25
      go_wp2_with (go_at_call 35; ((with_reducible refine (HV.out _).mono ?_); rintro e w1 ⟨rfl, rfl⟩))
      go_ret
      rw [HE.out]
      exact ⟨_, _, _, rfl, Grow.lit0 _ _ _ _ (Nat.le_refl _), BA.out _⟩
theorem specEncodeBlocks_any (a : Option Addr) (c : Nat) (xs : List Int) (w : World) (hx : Ints .i64 w w.heap.size a xs) (hc : xs.length ≤ c) (hl0 : xs.length ≤ maxLen) :
    Calls Tryd.prog 25 #[.slice a xs.length c] w (ListPostC (encB xs) w) :=
  (specEncodeBlocks_grow a c xs w hx hc hl0).mono fun _ _ h => h.post

set_option maxHeartbeats 1000000 in
theorem specDecodeBlocks_any (a : Option Addr) (c : Nat) (xs : List Int) (w : World) (hx : Ints .i64 w w.heap.size a xs) (hc : xs.length ≤ c) (hl0 : xs.length ≤ maxLen) :
    Calls Tryd.prog 28 #[.slice a xs.length c] w (DecBPost xs w) := by
  have HX := Lib.hid hx
  have HV := Lib.hid (fun o : Obj => specBitsValid_any a c w.heap.size xs (w.alloc o) (hx.below ((Below.refl w.heap.size w).alloc (Nat.le_refl _) o)) hl0)
  have BA := Lib.hid (fun o : Obj => (Below.refl w.heap.size w).alloc (Nat.le_refl _) o)
  clear hx hl0
  cases hb : bitsOk xs
  · have hno : blkOk 7 xs = false := by simp [blkOk, hb]
    have HE := Lib.hid (decB_no hno)
    have HF := Lib.hid (fixB_no hno)
    rw [hb] at HV
    clear hb hno
    go_enter Tryd.func28, Tryd.ntmps28
    go_wp2_with (go_at_call 35; ((with_reducible refine (HV.out _).mono ?_); rintro e w1 ⟨rfl, rfl⟩))
    go_ret2
    exact decBPost_mk HE.out HF.out (listPostC_lit (xs := []) (Below.refl _ _) rfl (by simp))
  · rw [hb] at HV
    have hlen := bitsOk_length hb
    by_cases h1 : xs.length % 7 = 0
    · have hr : ((xs.length : Int) % 7 != 0) = false := by rw [bne_eq_false_iff_eq]; omega
      by_cases h2 : xs.length ≤ 896
      · have hok : blkOk 7 xs = true := by simp [blkOk, hb, h1, h2]
        have HE := Lib.hid (decB_yes hok)
        have HF := Lib.hid (fixB_yes hok)
        have HBi := Lib.hid (bitsOk_all hb)
        obtain ⟨N, hN⟩ : ∃ N, N = xs.length / 7 := ⟨_, rfl⟩
        have HN4 := Lib.hid (show xs.length = 7 * N by omega)
        rw [← hN] at HE HF
        clear hb hok hN h1
        go_enter Tryd.func28, Tryd.ntmps28
        go_wp2_with (go_at_call 35; ((with_reducible refine (HV.out _).mono ?_); rintro e w1 ⟨rfl, rfl⟩))
        clear hr
        go_loopw [4, 5, 6] (fun s f i wr => ∃ (j k n m : Nat) (v : Option Addr) (cap : Nat), (j = 7 * k ∧ n = 4 * k ∧ k ≤ N ∧ m = fixK xs k) ∧ i = .int .i64 j ∧ s = .slice v n cap ∧ f = .int .i64 m ∧ Grow .i64 3 wr w.heap.size v n cap (decK xs k) ∧ Below w.heap.size w wr) (fun _ _ i _ => xs.length - (intOf i).toNat)
        case atStart => exact ⟨0, 0, 0, 0, _, _, ⟨rfl, rfl, Nat.zero_le _, rfl⟩, rfl, rfl, rfl, Grow.lit0 _ _ _ _ (Nat.le_refl _), BA.out _⟩
        case round =>
          obtain ⟨j, k, n, m, v, cap, ⟨hj, hn, hk, hm⟩, rfl, rfl, rfl, hgr, hbel⟩ := hrel
          have HG := Lib.hid hgr
          have HBe := Lib.hid hbel
          have hsz : w.heap.size ≤ wr.heap.size := hbel.size
          have hn9 : n ≤ 512 := by have := HN4.out; omega
          have hm9 : m ≤ 128 := by have := fixK_le xs k; have := HN4.out; omega
          clear hgr hbel
          by_cases hlt : j < xs.length
          · have hkN : 7 * k + 7 ≤ xs.length := by have := HN4.out; omega
            have hj4 : j + 7 ≤ xs.length := by omega
            obtain ⟨b, off, rfl, hbb, _⟩ := HX.out (by intro e; rw [e] at hlt; simp at hlt)
            have hw : wordOk (part 7 xs k) = true := wordOk_mk (part_length hkN) (part_bits HBi.out)
            have h3 := specDecodeNibble_any (some ⟨b, off + 7 * k, none⟩) (c - j) (part 7 xs k) wr ((part_ints (HX.out.below HBe.out) hkN).more hsz) (by rw [part_length hkN]; unfold maxLen; omega)
            unfold DecPost at h3
            rw [part_length hkN, decOr_yes hw, fixOr_yes hw, decW_length, ← hj] at h3
            have HQ := Lib.hid h3
            have HR := Lib.hid (show j + 7 = 7 * (k + 1) ∧ n + 4 = 4 * (k + 1) ∧ k + 1 ≤ N from ⟨by omega, by omega, by have := HN4.out; omega⟩)
            have HM := Lib.hid hm
            clear h3 hkN hj hn hk hw hm
            by_cases hs : syn (part 7 xs k) = 0
            · have HF1 := Lib.hid (show m = fixK xs (k + 1) by rw [fixK, if_pos hs, HM.out]; rfl)
              rw [decide_eq_false (by simp [hs])] at HQ
              clear hs HM
              go_wp2_with (first
                | (go_at_call 22; refine HQ.out.mono ?_; rintro e w2 ⟨v2, cv2, rfl, _, o2, b2⟩; have I2 := Lib.hid (own_of_list o2).ints; have G2 := Lib.hid (HG.out.below b2); have B2 := Lib.hid (Below.next HBe.out (Nat.le_refl _) b2); have s2 : w.heap.size ≤ w2.heap.size := (by have := b2.size; omega); clear o2 b2)
                | (at_builtin; refine wpList_appendA (.tmp 40) (.tmp 41) w.heap.size v v2 n cap 4 cv2 w2.heap.size (decK xs k) (decW (part 7 xs k)) rfl rfl rfl rfl G2.out I2.out (decW_length _) (by omega) s2 ?_; intro a3 cap3 w3 hg3 hb3 _; have HG3 := Lib.hid hg3; have HB3 := Lib.hid (B2.out.trans hb3); clear hg3 hb3))
              go_roundw
              case rel => exact ⟨j + 7, k + 1, n + 4, m, a3, cap3, ⟨HR.out.1, HR.out.2.1, HR.out.2.2, HF1.out⟩, by go_num, rfl, rfl, HG3.out, HB3.out⟩
              case measure => simp [intOf]; omega
            · have HF1 := Lib.hid (show m + 1 = fixK xs (k + 1) by rw [fixK, if_neg hs, HM.out])
              rw [decide_eq_true hs] at HQ
              clear hs HM
              go_wp2_with (first
                | (go_at_call 22; refine HQ.out.mono ?_; rintro e w2 ⟨v2, cv2, rfl, _, o2, b2⟩; have I2 := Lib.hid (own_of_list o2).ints; have G2 := Lib.hid (HG.out.below b2); have B2 := Lib.hid (Below.next HBe.out (Nat.le_refl _) b2); have s2 : w.heap.size ≤ w2.heap.size := (by have := b2.size; omega); clear o2 b2)
                | (at_builtin; refine wpList_appendA (.tmp 40) (.tmp 41) w.heap.size v v2 n cap 4 cv2 w2.heap.size (decK xs k) (decW (part 7 xs k)) rfl rfl rfl rfl G2.out I2.out (decW_length _) (by omega) s2 ?_; intro a3 cap3 w3 hg3 hb3 _; have HG3 := Lib.hid hg3; have HB3 := Lib.hid (B2.out.trans hb3); clear hg3 hb3))
              go_roundw
              case rel => exact ⟨j + 7, k + 1, n + 4, m + 1, a3, cap3, ⟨HR.out.1, HR.out.2.1, HR.out.2.2, HF1.out⟩, by go_num, rfl, by go_num, HG3.out, HB3.out⟩
              case measure => simp [intOf]; omega
          · have HK := Lib.hid (show k = N by have := HN4.out; omega)
            have HM := Lib.hid hm
            clear hj hn hk hm
            go_wp2
            go_ret2
            exact decBPost_mk (HE.out.trans (by rw [HK.out])) (HF.out.trans (by rw [← HK.out, HM.out])) (listPostC_grow HG.out HBe.out)
      · have hno : blkOk 7 xs = false := by simp [blkOk, h2]
        have HE := Lib.hid (decB_no hno)
        have HF := Lib.hid (fixB_no hno)
        clear hb h1 hno
        go_enter Tryd.func28, Tryd.ntmps28
        go_wp2_with (go_at_call 35; ((with_reducible refine (HV.out _).mono ?_); rintro e w1 ⟨rfl, rfl⟩))
        go_ret2
        exact decBPost_mk HE.out HF.out (listPostC_lit (xs := []) (Below.refl _ _) rfl (by simp))
    · have hr : ((xs.length : Int) % 7 != 0) = true := by rw [bne_iff_ne]; omega
      have hno : blkOk 7 xs = false := by simp [blkOk, h1]
      have HE := Lib.hid (decB_no hno)
      have HF := Lib.hid (fixB_no hno)
      clear hb h1 hno
      go_enter Tryd.func28, Tryd.ntmps28
      go_wp2_with (go_at_call 35; ((with_reducible refine (HV.out _).mono ?_); rintro e w1 ⟨rfl, rfl⟩))
      go_ret2
      exact decBPost_mk HE.out HF.out (listPostC_lit (xs := []) (Below.refl _ _) rfl (by simp))
end Go.Proofs.YtflplihhakepfaaDoor
