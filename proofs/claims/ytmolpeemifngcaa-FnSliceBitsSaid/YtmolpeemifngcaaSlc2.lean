/-
  What SliceBits answers, for every signal and every order. No condition.
-/
import Derived.Test.YtmolpeemifngcaaSlc1
import Derived.Test.YtmolpeemifngcaaSig1
import Derived.Test.YtmolpeemifngcaaDraws
namespace Go.Proofs.Ytmolpeemifngcaa
open Go.RowKit

theorem makeS9 (n : Nat) (hn : n ≤ 1024) (w : World) : (Instr.makeSlice 23 (.int .i64 0) (.int .i64 (n : Int))).run Try.prog w = .ok (.slice (some ⟨w.heap.size, 0, none⟩) 0 n) (w.alloc (.cells (madeCells #[.int .i64 0] n) 3)) := by
  obtain ⟨i0, hi0, hz0, hz1, hz2⟩ := info_parts Try.infoInt
  have h := run_make (P := Try.prog) w 23 3 i0 (.int .i64 0) Try.underlying23 hi0 hz0 .i64 .i64 0 (n : Int) (by omega) (by omega) (by rw [hz2]; omega) (by omega)
  rw [hz1, Nat.mul_one] at h
  exact h
theorem Grow.madeS9 (w : World) (base n : Nat) (hn : n ≤ 1024) (hb : base ≤ w.heap.size) : Grow .i64 3 (w.alloc (.cells (madeCells #[.int .i64 0] n) 3)) base (some ⟨w.heap.size, 0, none⟩) 0 n [] :=
  World.ownsRow_made (base := base) (e := 3) (size := 1) w (madeCells #[.int .i64 0] n) n hb (by unfold maxLen; omega) (by simp [size_madeCells])
theorem digits_ints (r n : Nat) (w : World) (hr : r < 65536) (hn : n ≤ 16) :
    Calls Try.prog 56 #[.int .i64 r, .int .i64 n] w fun e w' => e = .returned (.slice (some ⟨w.heap.size, 0, none⟩) n n) ∧ Ints .i64 w' w'.heap.size (some ⟨w.heap.size, 0, none⟩) (digits r n) ∧ Below w.heap.size w w' :=
  (digitsOf_any r n w hr hn).mono fun _ _ ⟨h1, h2, h3⟩ => ⟨h1, ints_of_row h2 (digits_length r n).symm h2.lt, h3⟩
theorem method_one (w : World) : (method 211 86 (.agg #[]) "loop.example/softwareradio/impl.decide").run Try.prog w = .ok (84, .agg #[]) w := by kernel_rfl
set_option maxHeartbeats 2000000 in
theorem slice_one (a : Option Addr) (c : Nat) (ps : List Smp) (w : World) (hx : Sigs w w.heap.size a ps) (hok : sigOk ps = true) :
    Calls Try.prog 22 #[.slice a ps.length c, .int .i64 1] w (ListPostC (slcs 1 ps) w) := by
  have HV := Lib.hid (signalValid_any a c ps w hx)
  have HX := Lib.hid hx
  rw [hok] at HV
  have hl := sigOk_len hok
  have HL := Lib.hid hl
  obtain ⟨M, hM⟩ : ∃ M, M = ps.length * 1 := ⟨_, rfl⟩
  have hM2 : M ≤ 1024 := by omega
  have HMK := Lib.hid (makeS9 M hM2)
  have HM2 := Lib.hid hM2
  obtain rfl : M = ps.length := by omega
  have hl2 := HL.out
  have hm := fun W => method_one W
  clear hx hok hl hM hM2
  go_enter Try.func22, Try.ntmps22
  go_wp2_with fail
  refine (modulationOf_one w).mono ?_
  rintro e w0 ⟨rfl, rfl⟩
  go_wp2_with fail
  refine HV.out.mono ?_
  rintro e w1 ⟨rfl, b1⟩
  have B1 := Lib.hid b1
  have HS1 := Lib.hid b1.size
  have hmk := HMK.out
  clear b1
  go_wp2
  clear hmk hl2
  go_loopw [7, 29] (fun s i wr => ∃ (k n : Nat) (v : Option Addr) (cap : Nat), (k ≤ ps.length ∧ n ≤ 4 * k) ∧ i = .int .i64 k ∧ s = .slice v n cap ∧ Grow .i64 3 wr w.heap.size v n cap (slcs 1 (ps.take k)) ∧ Below w.heap.size w wr) (fun _ i _ => ps.length - (intOf i).toNat)
  case atStart => exact ⟨0, 0, _, _, ⟨Nat.zero_le _, Nat.zero_le _⟩, rfl, rfl, Grow.madeS9 _ _ _ HM2.out HS1.out, B1.out.alloc HS1.out _⟩
  case round =>
    obtain ⟨k, n, v, cap, ⟨hk, hn⟩, rfl, rfl, hgr, hbel⟩ := hrel
    have HG := Lib.hid hgr
    have HB := Lib.hid hbel
    have HS := Lib.hid hbel.size
    have hk2 : k ≤ 256 := Nat.le_trans hk HL.out
    clear hgr hbel
    by_cases hlt : k < ps.length
    · obtain ⟨b, off, rfl, hb, hc, hc'⟩ := (HX.out.below HB.out).at_ hlt
      have HW : Hid (b < wr.heap.size) := Nat.lt_of_lt_of_le hb HS.out
      have HT := Lib.hid (slcs_take (o := 1) hlt)
      have HD : Hid (∀ W, Calls Try.prog 56 #[.int .i64 (decN 1 (sI ps k, sQ ps k) : Nat), .int .i64 1] W fun e w' => e = .returned (.slice (some ⟨W.heap.size, 0, none⟩) 1 1) ∧ Ints .i64 w' w'.heap.size (some ⟨W.heap.size, 0, none⟩) (slc 1 (sp ps k)) ∧ Below W.heap.size W w') :=
        fun W => digits_ints (decN 1 (sp ps k)) 1 W (by have := decN_lt 1 (sp ps k); omega) (by omega)
      clear hb
      go_wp2_with fail
      refine (decideOne_any (sI ps k) (sQ ps k) _).mono ?_
      rintro e w2 ⟨rfl, b2⟩
      have G2 := Lib.hid ((HG.out.alloc (.cells #[.int .i64 (sI ps k), .int .i64 (sQ ps k)] 36)).below b2)
      have B2 := Lib.hid (Below.next (HB.out.alloc HS.out (.cells #[.int .i64 (sI ps k), .int .i64 (sQ ps k)] 36)) (Nat.le_refl _) b2)
      clear b2 hc hc'
      go_wp2_with fail
      refine (HD.out w2).mono ?_
      rintro e w3 ⟨rfl, y3, b3⟩
      have Y3 := Lib.hid y3
      have G3 := Lib.hid (G2.out.below b3)
      have B3 := Lib.hid (Below.next B2.out (Nat.le_refl _) b3)
      clear y3 b3
      go_wp2_with (at_builtin; refine wpList_appendS (.tmp 33) (.tmp 38) w.heap.size v n cap (slcs 1 (ps.take k)) (slc 1 (sp ps k)) ⟨w2.heap.size, 0, none⟩ 1 1 w3.heap.size rfl rfl rfl rfl G3.out Y3.out (slc_length _ _) (by omega) B3.out.size ?_; intro a4 cap4 w4 hg4 hb4 _; have HG4 := Lib.hid hg4; have HB4 := Lib.hid hb4; clear hg4 hb4)
      go_roundw
      case rel => exact ⟨k + 1, n + 1, a4, cap4, by omega, by go_num, rfl, by rw [HT.out]; exact HG4.out, B3.out.trans HB4.out⟩
      case measure => simp [intOf]; omega
    · obtain rfl : ps.length = k := by omega
      have H1 : Hid (slcs 1 (ps.take ps.length) = slcs 1 ps) := by show slcs 1 (ps.take ps.length) = slcs 1 ps; rw [List.take_length]
      go_wp2
      go_ret
      rw [← H1.out]
      exact listPostC_grow HG.out HB.out
theorem method_two (w : World) : (method 211 87 (.agg #[]) "loop.example/softwareradio/impl.decide").run Try.prog w = .ok (87, .agg #[]) w := by kernel_rfl
set_option maxHeartbeats 2000000 in
theorem slice_two (a : Option Addr) (c : Nat) (ps : List Smp) (w : World) (hx : Sigs w w.heap.size a ps) (hok : sigOk ps = true) :
    Calls Try.prog 22 #[.slice a ps.length c, .int .i64 2] w (ListPostC (slcs 2 ps) w) := by
  have HV := Lib.hid (signalValid_any a c ps w hx)
  have HX := Lib.hid hx
  rw [hok] at HV
  have hl := sigOk_len hok
  have HL := Lib.hid hl
  obtain ⟨M, hM⟩ : ∃ M, M = ps.length * 2 := ⟨_, rfl⟩
  have hM2 : M ≤ 1024 := by omega
  have HMK := Lib.hid (makeS9 M hM2)
  have HM2 := Lib.hid hM2
  have r1 : wrap64 ((ps.length : Int) * 2) = (M : Int) := by unfold wrap64; omega
  have r2 : IntKind.i64.wrap ((ps.length : Int) * 2) = (M : Int) := by rw [IntKind.wrap_i64]; omega
  have hm := fun W => method_two W
  clear hx hok hl hM hM2
  go_enter Try.func22, Try.ntmps22
  go_wp2_with fail
  refine (modulationOf_two w).mono ?_
  rintro e w0 ⟨rfl, rfl⟩
  go_wp2_with fail
  refine HV.out.mono ?_
  rintro e w1 ⟨rfl, b1⟩
  have B1 := Lib.hid b1
  have HS1 := Lib.hid b1.size
  have hmk := HMK.out
  clear b1
  go_wp2
  clear hmk r1 r2
  go_loopw [7, 29] (fun s i wr => ∃ (k n : Nat) (v : Option Addr) (cap : Nat), (k ≤ ps.length ∧ n ≤ 4 * k) ∧ i = .int .i64 k ∧ s = .slice v n cap ∧ Grow .i64 3 wr w.heap.size v n cap (slcs 2 (ps.take k)) ∧ Below w.heap.size w wr) (fun _ i _ => ps.length - (intOf i).toNat)
  case atStart => exact ⟨0, 0, _, _, ⟨Nat.zero_le _, Nat.zero_le _⟩, rfl, rfl, Grow.madeS9 _ _ _ HM2.out HS1.out, B1.out.alloc HS1.out _⟩
  case round =>
    obtain ⟨k, n, v, cap, ⟨hk, hn⟩, rfl, rfl, hgr, hbel⟩ := hrel
    have HG := Lib.hid hgr
    have HB := Lib.hid hbel
    have HS := Lib.hid hbel.size
    have hk2 : k ≤ 256 := Nat.le_trans hk HL.out
    clear hgr hbel
    by_cases hlt : k < ps.length
    · obtain ⟨b, off, rfl, hb, hc, hc'⟩ := (HX.out.below HB.out).at_ hlt
      have HW : Hid (b < wr.heap.size) := Nat.lt_of_lt_of_le hb HS.out
      have HT := Lib.hid (slcs_take (o := 2) hlt)
      have HD : Hid (∀ W, Calls Try.prog 56 #[.int .i64 (decN 2 (sI ps k, sQ ps k) : Nat), .int .i64 2] W fun e w' => e = .returned (.slice (some ⟨W.heap.size, 0, none⟩) 2 2) ∧ Ints .i64 w' w'.heap.size (some ⟨W.heap.size, 0, none⟩) (slc 2 (sp ps k)) ∧ Below W.heap.size W w') :=
        fun W => digits_ints (decN 2 (sp ps k)) 2 W (by have := decN_lt 2 (sp ps k); omega) (by omega)
      clear hb
      go_wp2_with fail
      refine (decideTwo_any (sI ps k) (sQ ps k) _).mono ?_
      rintro e w2 ⟨rfl, b2⟩
      have G2 := Lib.hid ((HG.out.alloc (.cells #[.int .i64 (sI ps k), .int .i64 (sQ ps k)] 36)).below b2)
      have B2 := Lib.hid (Below.next (HB.out.alloc HS.out (.cells #[.int .i64 (sI ps k), .int .i64 (sQ ps k)] 36)) (Nat.le_refl _) b2)
      clear b2 hc hc'
      go_wp2_with fail
      refine (HD.out w2).mono ?_
      rintro e w3 ⟨rfl, y3, b3⟩
      have Y3 := Lib.hid y3
      have G3 := Lib.hid (G2.out.below b3)
      have B3 := Lib.hid (Below.next B2.out (Nat.le_refl _) b3)
      clear y3 b3
      go_wp2_with (at_builtin; refine wpList_appendS (.tmp 33) (.tmp 38) w.heap.size v n cap (slcs 2 (ps.take k)) (slc 2 (sp ps k)) ⟨w2.heap.size, 0, none⟩ 2 2 w3.heap.size rfl rfl rfl rfl G3.out Y3.out (slc_length _ _) (by omega) B3.out.size ?_; intro a4 cap4 w4 hg4 hb4 _; have HG4 := Lib.hid hg4; have HB4 := Lib.hid hb4; clear hg4 hb4)
      go_roundw
      case rel => exact ⟨k + 1, n + 2, a4, cap4, by omega, by go_num, rfl, by rw [HT.out]; exact HG4.out, B3.out.trans HB4.out⟩
      case measure => simp [intOf]; omega
    · obtain rfl : ps.length = k := by omega
      have H1 : Hid (slcs 2 (ps.take ps.length) = slcs 2 ps) := by show slcs 2 (ps.take ps.length) = slcs 2 ps; rw [List.take_length]
      go_wp2
      go_ret
      rw [← H1.out]
      exact listPostC_grow HG.out HB.out
theorem method_four (w : World) : (method 211 88 (.agg #[]) "loop.example/softwareradio/impl.decide").run Try.prog w = .ok (89, .agg #[]) w := by kernel_rfl
set_option maxHeartbeats 2000000 in
theorem slice_four (a : Option Addr) (c : Nat) (ps : List Smp) (w : World) (hx : Sigs w w.heap.size a ps) (hok : sigOk ps = true) :
    Calls Try.prog 22 #[.slice a ps.length c, .int .i64 4] w (ListPostC (slcs 4 ps) w) := by
  have HV := Lib.hid (signalValid_any a c ps w hx)
  have HX := Lib.hid hx
  rw [hok] at HV
  have hl := sigOk_len hok
  have HL := Lib.hid hl
  obtain ⟨M, hM⟩ : ∃ M, M = ps.length * 4 := ⟨_, rfl⟩
  have hM2 : M ≤ 1024 := by omega
  have HMK := Lib.hid (makeS9 M hM2)
  have HM2 := Lib.hid hM2
  have r1 : wrap64 ((ps.length : Int) * 4) = (M : Int) := by unfold wrap64; omega
  have r2 : IntKind.i64.wrap ((ps.length : Int) * 4) = (M : Int) := by rw [IntKind.wrap_i64]; omega
  have hm := fun W => method_four W
  clear hx hok hl hM hM2
  go_enter Try.func22, Try.ntmps22
  go_wp2_with fail
  refine (modulationOf_four w).mono ?_
  rintro e w0 ⟨rfl, rfl⟩
  go_wp2_with fail
  refine HV.out.mono ?_
  rintro e w1 ⟨rfl, b1⟩
  have B1 := Lib.hid b1
  have HS1 := Lib.hid b1.size
  have hmk := HMK.out
  clear b1
  go_wp2
  clear hmk r1 r2
  go_loopw [7, 29] (fun s i wr => ∃ (k n : Nat) (v : Option Addr) (cap : Nat), (k ≤ ps.length ∧ n ≤ 4 * k) ∧ i = .int .i64 k ∧ s = .slice v n cap ∧ Grow .i64 3 wr w.heap.size v n cap (slcs 4 (ps.take k)) ∧ Below w.heap.size w wr) (fun _ i _ => ps.length - (intOf i).toNat)
  case atStart => exact ⟨0, 0, _, _, ⟨Nat.zero_le _, Nat.zero_le _⟩, rfl, rfl, Grow.madeS9 _ _ _ HM2.out HS1.out, B1.out.alloc HS1.out _⟩
  case round =>
    obtain ⟨k, n, v, cap, ⟨hk, hn⟩, rfl, rfl, hgr, hbel⟩ := hrel
    have HG := Lib.hid hgr
    have HB := Lib.hid hbel
    have HS := Lib.hid hbel.size
    have hk2 : k ≤ 256 := Nat.le_trans hk HL.out
    clear hgr hbel
    by_cases hlt : k < ps.length
    · obtain ⟨b, off, rfl, hb, hc, hc'⟩ := (HX.out.below HB.out).at_ hlt
      have HW : Hid (b < wr.heap.size) := Nat.lt_of_lt_of_le hb HS.out
      have HT := Lib.hid (slcs_take (o := 4) hlt)
      have HD : Hid (∀ W, Calls Try.prog 56 #[.int .i64 (decN 4 (sI ps k, sQ ps k) : Nat), .int .i64 4] W fun e w' => e = .returned (.slice (some ⟨W.heap.size, 0, none⟩) 4 4) ∧ Ints .i64 w' w'.heap.size (some ⟨W.heap.size, 0, none⟩) (slc 4 (sp ps k)) ∧ Below W.heap.size W w') :=
        fun W => digits_ints (decN 4 (sp ps k)) 4 W (by have := decN_lt 4 (sp ps k); omega) (by omega)
      clear hb
      go_wp2_with fail
      refine (decideFour_any (sI ps k) (sQ ps k) _).mono ?_
      rintro e w2 ⟨rfl, b2⟩
      have G2 := Lib.hid ((HG.out.alloc (.cells #[.int .i64 (sI ps k), .int .i64 (sQ ps k)] 36)).below b2)
      have B2 := Lib.hid (Below.next (HB.out.alloc HS.out (.cells #[.int .i64 (sI ps k), .int .i64 (sQ ps k)] 36)) (Nat.le_refl _) b2)
      clear b2 hc hc'
      go_wp2_with fail
      refine (HD.out w2).mono ?_
      rintro e w3 ⟨rfl, y3, b3⟩
      have Y3 := Lib.hid y3
      have G3 := Lib.hid (G2.out.below b3)
      have B3 := Lib.hid (Below.next B2.out (Nat.le_refl _) b3)
      clear y3 b3
      go_wp2_with (at_builtin; refine wpList_appendS (.tmp 33) (.tmp 38) w.heap.size v n cap (slcs 4 (ps.take k)) (slc 4 (sp ps k)) ⟨w2.heap.size, 0, none⟩ 4 4 w3.heap.size rfl rfl rfl rfl G3.out Y3.out (slc_length _ _) (by omega) B3.out.size ?_; intro a4 cap4 w4 hg4 hb4 _; have HG4 := Lib.hid hg4; have HB4 := Lib.hid hb4; clear hg4 hb4)
      go_roundw
      case rel => exact ⟨k + 1, n + 4, a4, cap4, by omega, by go_num, rfl, by rw [HT.out]; exact HG4.out, B3.out.trans HB4.out⟩
      case measure => simp [intOf]; omega
    · obtain rfl : ps.length = k := by omega
      have H1 : Hid (slcs 4 (ps.take ps.length) = slcs 4 ps) := by show slcs 4 (ps.take ps.length) = slcs 4 ps; rw [List.take_length]
      go_wp2
      go_ret
      rw [← H1.out]
      exact listPostC_grow HG.out HB.out
end Go.Proofs.Ytmolpeemifngcaa
