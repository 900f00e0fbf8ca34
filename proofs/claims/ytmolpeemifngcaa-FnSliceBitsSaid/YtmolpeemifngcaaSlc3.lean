/-
  What SliceBits and its model answer, for every signal and every number. Condition: the model: the length can be.
-/
import Derived.Test.YtmolpeemifngcaaSlc2
namespace Go.Proofs.Ytmolpeemifngcaa
open Go.RowKit

theorem sliceNo_one (a : Option Addr) (c : Nat) (ps : List Smp) (w : World) (hx : Sigs w w.heap.size a ps) (hok : sigOk ps = false) :
    Calls Try.prog 22 #[.slice a ps.length c, .int .i64 1] w (ListPostC [] w) := by
  have HV := Lib.hid (signalValid_any a c ps w hx)
  rw [hok] at HV
  clear hx hok
  go_enter Try.func22, Try.ntmps22
  go_wp2_with fail
  refine (modulationOf_one w).mono ?_
  rintro e w0 ⟨rfl, rfl⟩
  go_wp2_with fail
  refine HV.out.mono ?_
  rintro e w1 ⟨rfl, b1⟩
  have B1 := Lib.hid b1
  clear b1
  go_wp2
  go_ret
  exact listPostC_nil B1.out
theorem sliceNo_two (a : Option Addr) (c : Nat) (ps : List Smp) (w : World) (hx : Sigs w w.heap.size a ps) (hok : sigOk ps = false) :
    Calls Try.prog 22 #[.slice a ps.length c, .int .i64 2] w (ListPostC [] w) := by
  have HV := Lib.hid (signalValid_any a c ps w hx)
  rw [hok] at HV
  clear hx hok
  go_enter Try.func22, Try.ntmps22
  go_wp2_with fail
  refine (modulationOf_two w).mono ?_
  rintro e w0 ⟨rfl, rfl⟩
  go_wp2_with fail
  refine HV.out.mono ?_
  rintro e w1 ⟨rfl, b1⟩
  have B1 := Lib.hid b1
  clear b1
  go_wp2
  go_ret
  exact listPostC_nil B1.out
theorem sliceNo_four (a : Option Addr) (c : Nat) (ps : List Smp) (w : World) (hx : Sigs w w.heap.size a ps) (hok : sigOk ps = false) :
    Calls Try.prog 22 #[.slice a ps.length c, .int .i64 4] w (ListPostC [] w) := by
  have HV := Lib.hid (signalValid_any a c ps w hx)
  rw [hok] at HV
  clear hx hok
  go_enter Try.func22, Try.ntmps22
  go_wp2_with fail
  refine (modulationOf_four w).mono ?_
  rintro e w0 ⟨rfl, rfl⟩
  go_wp2_with fail
  refine HV.out.mono ?_
  rintro e w1 ⟨rfl, b1⟩
  have B1 := Lib.hid b1
  clear b1
  go_wp2
  go_ret
  exact listPostC_nil B1.out
theorem sliceBits_any (a : Option Addr) (c : Nat) (ps : List Smp) (o : Int) (w : World) (hx : Sigs w w.heap.size a ps) :
    Calls Try.prog 22 #[.slice a ps.length c, .int .i64 o] w (ListPostC (slcOr ps o) w) := by
  by_cases h : o = 1 ∨ o = 2 ∨ o = 4
  · cases hok : sigOk ps
    · rw [slcOr_no hok]
      rcases h with rfl | rfl | rfl
      · exact sliceNo_one a c ps w hx hok
      · exact sliceNo_two a c ps w hx hok
      · exact sliceNo_four a c ps w hx hok
    · rcases h with rfl | rfl | rfl
      · rw [show slcOr ps 1 = slcs 1 ps from slcOr_yes (O := 1) hok rfl]
        exact slice_one a c ps w hx hok
      · rw [show slcOr ps 2 = slcs 2 ps from slcOr_yes (O := 2) hok rfl]
        exact slice_two a c ps w hx hok
      · rw [show slcOr ps 4 = slcs 4 ps from slcOr_yes (O := 4) hok rfl]
        exact slice_four a c ps w hx hok
  · rw [slcOr_out h]
    clear hx
    have h1 : o ≠ 1 := fun e => h (.inl e)
    have h2 : o ≠ 2 := fun e => h (.inr (.inl e))
    have h4 : o ≠ 4 := fun e => h (.inr (.inr e))
    have HM := Lib.hid (modulationOf_no o w h1 h2 h4)
    clear h h1 h2 h4
    go_enter Try.func22, Try.ntmps22
    go_wp2_with fail
    refine HM.out.mono ?_
    rintro e w0 ⟨rfl, rfl⟩
    go_wp2
    go_ret
    exact listPostC_nil (Below.refl _ _)

theorem l9Order_one (w : World) : Calls Try.prog 53 #[.int .i64 1] w fun e w' => e = .returned (.bool true) ∧ w = w' := by
  go_enter Try.func53, Try.ntmps53
  go_wp2
  go_ret
  exact ⟨rfl, rfl⟩
theorem l9Order_two (w : World) : Calls Try.prog 53 #[.int .i64 2] w fun e w' => e = .returned (.bool true) ∧ w = w' := by
  go_enter Try.func53, Try.ntmps53
  go_wp2
  go_ret
  exact ⟨rfl, rfl⟩
theorem l9Order_four (w : World) : Calls Try.prog 53 #[.int .i64 4] w fun e w' => e = .returned (.bool true) ∧ w = w' := by
  go_enter Try.func53, Try.ntmps53
  go_wp2
  go_ret
  exact ⟨rfl, rfl⟩
theorem l9Order_no (o : Int) (w : World) (h1 : o ≠ 1) (h2 : o ≠ 2) (h4 : o ≠ 4) : Calls Try.prog 53 #[.int .i64 o] w fun e w' => e = .returned (.bool false) ∧ w = w' := by
  have z1 : (o == 1) = false := by simpa using h1
  have z2 : (o == 2) = false := by simpa using h2
  have z4 : (o == 4) = false := by simpa using h4
  clear h1 h2 h4
  go_enter Try.func53, Try.ntmps53
  go_wp2
  go_ret
  exact ⟨rfl, rfl⟩
theorem ints_two9 {w : World} {b : Nat} {t : TypeId} {x y : Int} (h : w.heap[b]? = some (.cells #[.int .i64 x, .int .i64 y] t (0, 0))) (hb : b < w.heap.size) : Ints .i64 w w.heap.size (some ⟨b, 0, none⟩) [x, y] := fun _ =>
  ⟨b, 0, rfl, hb, fun i hi => by
    match i, hi with
    | 0, _ => exact cell_of_row _ _ 0 _ _ _ h
    | 1, _ => exact cell_of_row _ _ 1 _ _ _ h⟩
/-- The bits of a level, in a new list. -/
def LevelPost (l : List Int) (w : World) (e : Ending) (w' : World) : Prop :=
  e = .returned (.slice (some ⟨w.heap.size, 0, none⟩) l.length l.length) ∧ Ints .i64 w' w'.heap.size (some ⟨w.heap.size, 0, none⟩) l ∧ Below w.heap.size w w'
theorem levelPost_one (w : World) (x : Int) : LevelPost [x] w (.returned (.slice (some ⟨w.heap.size, 0, none⟩) 1 1)) (w.alloc (.cells #[.int .i64 x] 3)) :=
  ⟨rfl, ints_one (heap_alloc_last _ _) (by simp), (Below.refl _ _).alloc (Nat.le_refl _) _⟩
theorem levelPost_two (w : World) (x y : Int) : LevelPost [x, y] w (.returned (.slice (some ⟨w.heap.size, 0, none⟩) 2 2)) (w.alloc (.cells #[.int .i64 x, .int .i64 y] 3)) :=
  ⟨rfl, ints_two9 (heap_alloc_last _ _) (by simp), (Below.refl _ _).alloc (Nat.le_refl _) _⟩
theorem l9Slice_one (n : Int) (w : World) : Calls Try.prog 62 #[.int .i64 n, .int .i64 1] w (LevelPost (lev1 n) w) := by
  rcases dec1_cases n with ⟨h, _, e⟩ | ⟨h, _, e⟩
  · rw [e]
    clear e
    go_enter Try.func62, Try.ntmps62
    go_wp2
    go_ret
    exact levelPost_one w 1
  · rw [e]
    clear e
    go_enter Try.func62, Try.ntmps62
    go_wp2
    go_ret
    exact levelPost_one w 0
theorem l9Slice_two (n : Int) (w : World) : Calls Try.prog 62 #[.int .i64 n, .int .i64 2] w (LevelPost (lev2 n) w) := by
  rcases dec2_cases n with ⟨h, _, e⟩ | ⟨⟨h1, h2⟩, _, e⟩ | ⟨⟨h1, h2, h3⟩, _, e⟩ | ⟨⟨h1, h2, h3⟩, _, e⟩
  · rw [e]
    clear e
    go_enter Try.func62, Try.ntmps62
    go_wp2
    go_ret
    exact levelPost_two w 0 0
  · rw [e]
    clear e
    go_enter Try.func62, Try.ntmps62
    go_wp2
    go_ret
    exact levelPost_two w 0 1
  · rw [e]
    clear e
    go_enter Try.func62, Try.ntmps62
    go_wp2
    go_ret
    exact levelPost_two w 1 1
  · rw [e]
    clear e
    go_enter Try.func62, Try.ntmps62
    go_wp2
    go_ret
    exact levelPost_two w 1 0
theorem lev1_length (n : Int) : (lev1 n).length = 1 := by rcases dec1_cases n with ⟨_, _, e⟩ | ⟨_, _, e⟩ <;> rw [e] <;> rfl
theorem lev2_length (n : Int) : (lev2 n).length = 2 := by rcases dec2_cases n with ⟨_, _, e⟩ | ⟨_, _, e⟩ | ⟨_, _, e⟩ | ⟨_, _, e⟩ <;> rw [e] <;> rfl
set_option maxHeartbeats 2000000 in
theorem specSlice_one (a : Option Addr) (c : Nat) (ps : List Smp) (w : World) (hx : Sigs w w.heap.size a ps) (hl0 : ps.length ≤ maxLen) (hok : sigOk ps = true) :
    Calls Try.prog 27 #[.slice a ps.length c, .int .i64 1] w (ListPostC (slcs 1 ps) w) := by
  have hal := fun o : Obj => (Below.refl w.heap.size w).alloc (Nat.le_refl _) o
  have HA := Lib.hid hal
  have HV := Lib.hid (fun o : Obj => specSignalValid_any a c w.heap.size ps (w.alloc o) (hx.below (hal o)) hl0)
  have HX := Lib.hid hx
  rw [hok] at HV
  have hl := sigOk_len hok
  have HL := Lib.hid hl
  have r1 : wrap64 ((ps.length : Int) * 1) = (ps.length : Int) * 1 := by unfold wrap64; omega
  have r2 : ¬ (1024 < (ps.length : Int) * 1) := by omega
  clear hx hok hal hl0
  go_enter Try.func27, Try.ntmps27
  go_wp2_with (first
    | (go_at_call 24; ((with_reducible refine (HV.out _).mono ?_); rintro e w' ⟨rfl, rfl⟩))
    | (go_at_call 53; ((with_reducible refine (l9Order_one _).mono ?_); rintro e w' ⟨rfl, rfl⟩)))
  clear r1 r2 hl
  go_loopw [5, 6] (fun s i wr => ∃ (k n : Nat) (v : Option Addr) (cap : Nat), (k ≤ ps.length ∧ n ≤ 4 * k) ∧ i = .int .i64 k ∧ s = .slice v n cap ∧ Grow .i64 3 wr w.heap.size v n cap (slcs 1 (ps.take k)) ∧ Below w.heap.size w wr) (fun _ i _ => ps.length - (intOf i).toNat)
  case atStart => exact ⟨0, 0, _, _, ⟨Nat.zero_le _, Nat.zero_le _⟩, rfl, rfl, Grow.lit0 _ _ _ _ (Nat.le_refl _), HA.out _⟩
  case round =>
    obtain ⟨k, n, v, cap, ⟨hk, hn⟩, rfl, rfl, hgr, hbel⟩ := hrel
    have HG := Lib.hid hgr
    have HB := Lib.hid hbel
    have HS := Lib.hid hbel.size
    have hk2 : k ≤ 256 := Nat.le_trans hk HL.out
    clear hgr hbel
    by_cases hlt : k < ps.length
    · obtain ⟨b, off, rfl, hb, h0, h0'⟩ := HX.out.at_ hlt
      have HC : Hid (∀ W, Below w.heap.size w W → W.cell? ⟨b, off + k * 2, none⟩ = some (.int .i64 (sI ps k)) ∧ W.cell? ⟨b, off + k * 2 + 1, none⟩ = some (.int .i64 (sQ ps k))) := fun W hw => ⟨(hw.cell hb).trans h0, (hw.cell hb).trans h0'⟩
      obtain ⟨hc, hc'⟩ := HC.out wr HB.out
      have HT := Lib.hid (slcs_take (o := 1) hlt)
      have HI : Hid (∀ W, Calls Try.prog 62 #[.int .i64 (sI ps k), .int .i64 1] W (LevelPost (lev1 (sI ps k)) W)) := fun W => l9Slice_one _ W
      have HQ : Hid (∀ W, Calls Try.prog 62 #[.int .i64 (sQ ps k), .int .i64 1] W (LevelPost (lev1 (sQ ps k)) W)) := fun W => l9Slice_one _ W
      clear hb h0 h0'
      go_wp2_with fail
      refine (HI.out _).mono ?_
      rintro e w2 ⟨rfl, y2, b2⟩
      have Y2 := Lib.hid y2
      have G2 := Lib.hid (HG.out.below b2)
      have B2 := Lib.hid (Below.next HB.out (Nat.le_refl _) b2)
      rw [lev1_length]
      clear y2 b2 hc hc'
      go_wp2_with (at_builtin; refine wpList_appendS (.tmp 30) (.tmp 39) w.heap.size v n cap (slcs 1 (ps.take k)) (lev1 (sI ps k)) ⟨wr.heap.size, 0, none⟩ 1 1 w2.heap.size rfl rfl rfl rfl G2.out Y2.out (lev1_length _) (by omega) B2.out.size ?_; intro a4 cap4 w4 hg4 hb4 _; have HG4 := Lib.hid hg4; have HB4 := Lib.hid hb4; have B4 := Lib.hid (B2.out.trans hb4); obtain ⟨hc, hc'⟩ := HC.out w4 B4.out; clear hg4 hb4)
      go_roundw
      case rel => exact ⟨k + 1, n + 1, a4, cap4, by omega, by go_num, rfl, by rw [HT.out, slc_one]; exact HG4.out, B2.out.trans HB4.out⟩
      case measure => simp [intOf]; omega
    · obtain rfl : ps.length = k := by omega
      have H1 : Hid (slcs 1 (ps.take ps.length) = slcs 1 ps) := by show slcs 1 (ps.take ps.length) = slcs 1 ps; rw [List.take_length]
      go_wp2
      go_ret
      rw [← H1.out]
      exact listPostC_grow HG.out HB.out
set_option maxHeartbeats 2000000 in
theorem specSlice_two (a : Option Addr) (c : Nat) (ps : List Smp) (w : World) (hx : Sigs w w.heap.size a ps) (hl0 : ps.length ≤ maxLen) (hok : sigOk ps = true) :
    Calls Try.prog 27 #[.slice a ps.length c, .int .i64 2] w (ListPostC (slcs 2 ps) w) := by
  have hal := fun o : Obj => (Below.refl w.heap.size w).alloc (Nat.le_refl _) o
  have HA := Lib.hid hal
  have HV := Lib.hid (fun o : Obj => specSignalValid_any a c w.heap.size ps (w.alloc o) (hx.below (hal o)) hl0)
  have HX := Lib.hid hx
  rw [hok] at HV
  have hl := sigOk_len hok
  have HL := Lib.hid hl
  have r1 : wrap64 ((ps.length : Int) * 2) = (ps.length : Int) * 2 := by unfold wrap64; omega
  have r2 : ¬ (1024 < (ps.length : Int) * 2) := by omega
  clear hx hok hal hl0
  go_enter Try.func27, Try.ntmps27
  go_wp2_with (first
    | (go_at_call 24; ((with_reducible refine (HV.out _).mono ?_); rintro e w' ⟨rfl, rfl⟩))
    | (go_at_call 53; ((with_reducible refine (l9Order_two _).mono ?_); rintro e w' ⟨rfl, rfl⟩)))
  clear r1 r2 hl
  go_loopw [5, 6] (fun s i wr => ∃ (k n : Nat) (v : Option Addr) (cap : Nat), (k ≤ ps.length ∧ n ≤ 4 * k) ∧ i = .int .i64 k ∧ s = .slice v n cap ∧ Grow .i64 3 wr w.heap.size v n cap (slcs 2 (ps.take k)) ∧ Below w.heap.size w wr) (fun _ i _ => ps.length - (intOf i).toNat)
  case atStart => exact ⟨0, 0, _, _, ⟨Nat.zero_le _, Nat.zero_le _⟩, rfl, rfl, Grow.lit0 _ _ _ _ (Nat.le_refl _), HA.out _⟩
  case round =>
    obtain ⟨k, n, v, cap, ⟨hk, hn⟩, rfl, rfl, hgr, hbel⟩ := hrel
    have HG := Lib.hid hgr
    have HB := Lib.hid hbel
    have HS := Lib.hid hbel.size
    have hk2 : k ≤ 256 := Nat.le_trans hk HL.out
    clear hgr hbel
    by_cases hlt : k < ps.length
    · obtain ⟨b, off, rfl, hb, h0, h0'⟩ := HX.out.at_ hlt
      have HC : Hid (∀ W, Below w.heap.size w W → W.cell? ⟨b, off + k * 2, none⟩ = some (.int .i64 (sI ps k)) ∧ W.cell? ⟨b, off + k * 2 + 1, none⟩ = some (.int .i64 (sQ ps k))) := fun W hw => ⟨(hw.cell hb).trans h0, (hw.cell hb).trans h0'⟩
      obtain ⟨hc, hc'⟩ := HC.out wr HB.out
      have HT := Lib.hid (slcs_take (o := 2) hlt)
      have HI : Hid (∀ W, Calls Try.prog 62 #[.int .i64 (sI ps k), .int .i64 1] W (LevelPost (lev1 (sI ps k)) W)) := fun W => l9Slice_one _ W
      have HQ : Hid (∀ W, Calls Try.prog 62 #[.int .i64 (sQ ps k), .int .i64 1] W (LevelPost (lev1 (sQ ps k)) W)) := fun W => l9Slice_one _ W
      clear hb h0 h0'
      go_wp2_with fail
      refine (HI.out _).mono ?_
      rintro e w2 ⟨rfl, y2, b2⟩
      have Y2 := Lib.hid y2
      have G2 := Lib.hid (HG.out.below b2)
      have B2 := Lib.hid (Below.next HB.out (Nat.le_refl _) b2)
      rw [lev1_length]
      clear y2 b2 hc hc'
      go_wp2_with (at_builtin; refine wpList_appendS (.tmp 30) (.tmp 39) w.heap.size v n cap (slcs 2 (ps.take k)) (lev1 (sI ps k)) ⟨wr.heap.size, 0, none⟩ 1 1 w2.heap.size rfl rfl rfl rfl G2.out Y2.out (lev1_length _) (by omega) B2.out.size ?_; intro a4 cap4 w4 hg4 hb4 _; have HG4 := Lib.hid hg4; have HB4 := Lib.hid hb4; have B4 := Lib.hid (B2.out.trans hb4); obtain ⟨hc, hc'⟩ := HC.out w4 B4.out; clear hg4 hb4)
      refine (HQ.out _).mono ?_
      rintro e w5 ⟨rfl, y5, b5⟩
      have Y5 := Lib.hid y5
      have G5 := Lib.hid (HG4.out.below b5)
      have B5 := Lib.hid (Below.next B4.out (Nat.le_refl _) b5)
      rw [lev1_length]
      clear y5 b5 hc hc'
      go_wp2_with (at_builtin; refine wpList_appendS (.tmp 43) (.tmp 51) w.heap.size a4 (n + 1) cap4 (slcs 2 (ps.take k) ++ lev1 (sI ps k)) (lev1 (sQ ps k)) ⟨w4.heap.size, 0, none⟩ 1 1 w5.heap.size rfl rfl rfl rfl G5.out Y5.out (lev1_length _) (by omega) B5.out.size ?_; intro a6 cap6 w6 hg6 hb6 _; have HG6 := Lib.hid hg6; have HB6 := Lib.hid hb6; clear hg6 hb6)
      go_roundw
      case rel => exact ⟨k + 1, n + 1 + 1, a6, cap6, by omega, by go_num, rfl, by rw [HT.out, slc_two, ← List.append_assoc]; exact HG6.out, B5.out.trans HB6.out⟩
      case measure => simp [intOf]; omega
    · obtain rfl : ps.length = k := by omega
      have H1 : Hid (slcs 2 (ps.take ps.length) = slcs 2 ps) := by show slcs 2 (ps.take ps.length) = slcs 2 ps; rw [List.take_length]
      go_wp2
      go_ret
      rw [← H1.out]
      exact listPostC_grow HG.out HB.out
set_option maxHeartbeats 2000000 in
theorem specSlice_four (a : Option Addr) (c : Nat) (ps : List Smp) (w : World) (hx : Sigs w w.heap.size a ps) (hl0 : ps.length ≤ maxLen) (hok : sigOk ps = true) :
    Calls Try.prog 27 #[.slice a ps.length c, .int .i64 4] w (ListPostC (slcs 4 ps) w) := by
  have hal := fun o : Obj => (Below.refl w.heap.size w).alloc (Nat.le_refl _) o
  have HA := Lib.hid hal
  have HV := Lib.hid (fun o : Obj => specSignalValid_any a c w.heap.size ps (w.alloc o) (hx.below (hal o)) hl0)
  have HX := Lib.hid hx
  rw [hok] at HV
  have hl := sigOk_len hok
  have HL := Lib.hid hl
  have r1 : wrap64 ((ps.length : Int) * 4) = (ps.length : Int) * 4 := by unfold wrap64; omega
  have r2 : ¬ (1024 < (ps.length : Int) * 4) := by omega
  clear hx hok hal hl0
  go_enter Try.func27, Try.ntmps27
  go_wp2_with (first
    | (go_at_call 24; ((with_reducible refine (HV.out _).mono ?_); rintro e w' ⟨rfl, rfl⟩))
    | (go_at_call 53; ((with_reducible refine (l9Order_four _).mono ?_); rintro e w' ⟨rfl, rfl⟩)))
  clear r1 r2 hl
  go_loopw [5, 6] (fun s i wr => ∃ (k n : Nat) (v : Option Addr) (cap : Nat), (k ≤ ps.length ∧ n ≤ 4 * k) ∧ i = .int .i64 k ∧ s = .slice v n cap ∧ Grow .i64 3 wr w.heap.size v n cap (slcs 4 (ps.take k)) ∧ Below w.heap.size w wr) (fun _ i _ => ps.length - (intOf i).toNat)
  case atStart => exact ⟨0, 0, _, _, ⟨Nat.zero_le _, Nat.zero_le _⟩, rfl, rfl, Grow.lit0 _ _ _ _ (Nat.le_refl _), HA.out _⟩
  case round =>
    obtain ⟨k, n, v, cap, ⟨hk, hn⟩, rfl, rfl, hgr, hbel⟩ := hrel
    have HG := Lib.hid hgr
    have HB := Lib.hid hbel
    have HS := Lib.hid hbel.size
    have hk2 : k ≤ 256 := Nat.le_trans hk HL.out
    clear hgr hbel
    by_cases hlt : k < ps.length
    · obtain ⟨b, off, rfl, hb, h0, h0'⟩ := HX.out.at_ hlt
      have HC : Hid (∀ W, Below w.heap.size w W → W.cell? ⟨b, off + k * 2, none⟩ = some (.int .i64 (sI ps k)) ∧ W.cell? ⟨b, off + k * 2 + 1, none⟩ = some (.int .i64 (sQ ps k))) := fun W hw => ⟨(hw.cell hb).trans h0, (hw.cell hb).trans h0'⟩
      obtain ⟨hc, hc'⟩ := HC.out wr HB.out
      have HT := Lib.hid (slcs_take (o := 4) hlt)
      have HI : Hid (∀ W, Calls Try.prog 62 #[.int .i64 (sI ps k), .int .i64 2] W (LevelPost (lev2 (sI ps k)) W)) := fun W => l9Slice_two _ W
      have HQ : Hid (∀ W, Calls Try.prog 62 #[.int .i64 (sQ ps k), .int .i64 2] W (LevelPost (lev2 (sQ ps k)) W)) := fun W => l9Slice_two _ W
      clear hb h0 h0'
      go_wp2_with fail
      refine (HI.out _).mono ?_
      rintro e w2 ⟨rfl, y2, b2⟩
      have Y2 := Lib.hid y2
      have G2 := Lib.hid (HG.out.below b2)
      have B2 := Lib.hid (Below.next HB.out (Nat.le_refl _) b2)
      rw [lev2_length]
      clear y2 b2 hc hc'
      go_wp2_with (at_builtin; refine wpList_appendS (.tmp 30) (.tmp 39) w.heap.size v n cap (slcs 4 (ps.take k)) (lev2 (sI ps k)) ⟨wr.heap.size, 0, none⟩ 2 2 w2.heap.size rfl rfl rfl rfl G2.out Y2.out (lev2_length _) (by omega) B2.out.size ?_; intro a4 cap4 w4 hg4 hb4 _; have HG4 := Lib.hid hg4; have HB4 := Lib.hid hb4; have B4 := Lib.hid (B2.out.trans hb4); obtain ⟨hc, hc'⟩ := HC.out w4 B4.out; clear hg4 hb4)
      refine (HQ.out _).mono ?_
      rintro e w5 ⟨rfl, y5, b5⟩
      have Y5 := Lib.hid y5
      have G5 := Lib.hid (HG4.out.below b5)
      have B5 := Lib.hid (Below.next B4.out (Nat.le_refl _) b5)
      rw [lev2_length]
      clear y5 b5 hc hc'
      go_wp2_with (at_builtin; refine wpList_appendS (.tmp 43) (.tmp 51) w.heap.size a4 (n + 2) cap4 (slcs 4 (ps.take k) ++ lev2 (sI ps k)) (lev2 (sQ ps k)) ⟨w4.heap.size, 0, none⟩ 2 2 w5.heap.size rfl rfl rfl rfl G5.out Y5.out (lev2_length _) (by omega) B5.out.size ?_; intro a6 cap6 w6 hg6 hb6 _; have HG6 := Lib.hid hg6; have HB6 := Lib.hid hb6; clear hg6 hb6)
      go_roundw
      case rel => exact ⟨k + 1, n + 2 + 2, a6, cap6, by omega, by go_num, rfl, by rw [HT.out, slc_four, ← List.append_assoc]; exact HG6.out, B5.out.trans HB6.out⟩
      case measure => simp [intOf]; omega
    · obtain rfl : ps.length = k := by omega
      have H1 : Hid (slcs 4 (ps.take ps.length) = slcs 4 ps) := by show slcs 4 (ps.take ps.length) = slcs 4 ps; rw [List.take_length]
      go_wp2
      go_ret
      rw [← H1.out]
      exact listPostC_grow HG.out HB.out
theorem specSliceBits_any (a : Option Addr) (c : Nat) (ps : List Smp) (o : Int) (w : World) (hx : Sigs w w.heap.size a ps) (hl0 : ps.length ≤ maxLen) :
    Calls Try.prog 27 #[.slice a ps.length c, .int .i64 o] w (ListPostC (slcOr ps o) w) := by
  have hal := fun o : Obj => (Below.refl w.heap.size w).alloc (Nat.le_refl _) o
  cases hok : sigOk ps
  · rw [slcOr_no hok]
    have HA := Lib.hid hal
    have HV := Lib.hid (fun o : Obj => specSignalValid_any a c w.heap.size ps (w.alloc o) (hx.below (hal o)) hl0)
    rw [hok] at HV
    clear hx hok hal hl0
    go_enter Try.func27, Try.ntmps27
    go_wp2_with (go_at_call 24; ((with_reducible refine (HV.out _).mono ?_); rintro e w' ⟨rfl, rfl⟩))
    go_ret
    exact listPostC_grow (Grow.lit0 _ _ _ _ (Nat.le_refl _)) (HA.out _)
  · by_cases h : o = 1 ∨ o = 2 ∨ o = 4
    · rcases h with rfl | rfl | rfl
      · rw [show slcOr ps 1 = slcs 1 ps from slcOr_yes (O := 1) hok rfl]
        exact specSlice_one a c ps w hx hl0 hok
      · rw [show slcOr ps 2 = slcs 2 ps from slcOr_yes (O := 2) hok rfl]
        exact specSlice_two a c ps w hx hl0 hok
      · rw [show slcOr ps 4 = slcs 4 ps from slcOr_yes (O := 4) hok rfl]
        exact specSlice_four a c ps w hx hl0 hok
    · rw [slcOr_out h]
      have h1 : o ≠ 1 := fun e => h (.inl e)
      have h2 : o ≠ 2 := fun e => h (.inr (.inl e))
      have h4 : o ≠ 4 := fun e => h (.inr (.inr e))
      have HA := Lib.hid hal
      have HV := Lib.hid (fun o : Obj => specSignalValid_any a c w.heap.size ps (w.alloc o) (hx.below (hal o)) hl0)
      rw [hok] at HV
      have HO := Lib.hid (fun W => l9Order_no o W h1 h2 h4)
      clear hx hok hal hl0 h h1 h2 h4
      go_enter Try.func27, Try.ntmps27
      go_wp2_with (first
        | (go_at_call 24; ((with_reducible refine (HV.out _).mono ?_); rintro e w' ⟨rfl, rfl⟩))
        | (go_at_call 53; ((with_reducible refine (HO.out _).mono ?_); rintro e w' ⟨rfl, rfl⟩)))
      go_ret
      exact listPostC_grow (Grow.lit0 _ _ _ _ (Nat.le_refl _)) (HA.out _)
end Go.Proofs.Ytmolpeemifngcaa
