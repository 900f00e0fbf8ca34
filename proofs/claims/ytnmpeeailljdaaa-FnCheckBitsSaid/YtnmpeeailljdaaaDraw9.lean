/-
  How the laws of chapter 2 draw a list and a generator polynomial: what comes out, and what it leaves.
-/
import Derived.Test.YtnmpeeailljdaaaDraw8
import Derived.Test.YtnmpeeailljdaaaSpec7
namespace Go.Proofs.Ytnmpeeailljdaaa
open Go.RowKit

/-- A drawn list and number. -/
def ListNum (w : World) (e : Ending) (w' : World) : Prop :=
  ∃ xs a c g, e = .returned (.tuple #[.slice a xs.length c, .int .i64 g]) ∧ (xs.length ≤ 1100 ∧ xs.length ≤ c ∧ c ≤ maxLen) ∧ (-10 ≤ g ∧ g ≤ 131073) ∧ Ints .i64 w' w'.heap.size a xs ∧ Below w.heap.size w w'
theorem Ints.grownR {k : IntKind} {w w' : World} {base n cap R : Nat} {t : TypeId} {a : Option Addr} {xs : List Int} (h : Grow k t w base a n cap xs) (hg : w.grownBy w' (some R)) (hR : R < base) : Ints k w' w'.heap.size a xs := (h.grownR hg hR).ints
theorem grow_made (w : World) (n : Nat) (hn : n ≤ maxLen) : Grow .i64 3 (w.alloc (.cells (madeCells #[.int .i64 0] n) 3)) w.heap.size (some ⟨w.heap.size, 0, none⟩) n n (zeros n) := by
  rw [madeCells_zeros]
  exact ⟨by simp [zeros], .inr ⟨w.heap.size, n, _, rfl, Nat.le_refl _, heap_alloc_last _ _, Nat.le_refl _, hn, by simp [zeros], by simp [zeros]⟩⟩
theorem ints_set {w : World} {b cap k : Nat} {t : TypeId} {f : Nat → Value} {xs : List Int} {v : Int} (h : w.rowIs b t cap f) (hf : ∀ i, i < xs.length → f i = .int .i64 (el xs i)) (hl : xs.length ≤ cap) :
    Ints .i64 (w.setCell ⟨b, k, none⟩ (.int .i64 v)) (w.setCell ⟨b, k, none⟩ (.int .i64 v)).heap.size (some ⟨b, 0, none⟩) (xs.set k v) := fun _ => by
  have h2 := h.set k (.int .i64 v)
  refine ⟨b, 0, rfl, h2.lt, fun i hi => ?_⟩
  have hi2 : i < xs.length := by simpa using hi
  rw [Nat.zero_add, h2.cell (by omega)]
  by_cases e : i = k
  · subst e; simp [el, hi2]
  · simp only [e, if_false, hf i hi2]
    simp [el, show ¬ k = i from fun h => e h.symm]
theorem appOr_bits {g : Int} {xs : List Int} {j : Nat} (hj : j < (appOr g xs).length) : el (appOr g xs) j = 0 ∨ el (appOr g xs) j = 1 := by
  cases h : appOk g xs
  · simp [appOr, h] at hj
  · have h1 : chkOk g xs = true ∧ xs.length + deg g ≤ 1024 := by simpa [appOk] using h
    obtain ⟨h2, h3⟩ := chkOk_parts h1.1
    have h4 : bitsOk (appOr g xs) = true := by
      simp only [appOr, h, if_true]
      exact bitsOk_append h2 (chk_ok h3 _) (by rw [chk_length]; exact h1.2)
    exact bit_cases h4 hj
theorem appOr_small {g : Int} {xs : List Int} (h : xs.length ≤ 30) : (appOr g xs).length ≤ 60 := by
  unfold appOr; split
  · next h1 =>
    have h1 : chkOk g xs = true ∧ xs.length + deg g ≤ 1024 := by simpa [appOk] using h1
    have := (deg_lt (chkOk_parts h1.1).2).2
    rw [List.length_append, chk_length]; omega
  · simp
theorem Own.grownR {k : IntKind} {t : TypeId} {w w' : World} {B C R : Nat} {a : Option Addr} {xs : List Int} (h : Own k t w B C a xs) (hg : w.grownBy w' (some R)) (hR : R < B) : Own k t w' B C a xs :=
  h.keep (KeptOut.of_grown (B := R) (C := R + 1) hg (Nat.le_refl _) (by omega)) (.inr hR)
set_option maxHeartbeats 1000000 in
theorem drawCheckBits_any (a : Option Addr) (c : Nat) (ds : List Int) (w : World) (hx : Ints .u8 w w.heap.size a ds) (hw : ∀ n ∈ ds, isByte n) (hc : ds.length ≤ c) (hcm : c ≤ maxLen) :
    Calls Try.prog 24 #[.slice a ds.length c] w (ListNum w) := by
  have hl : ds.length ≤ maxLen := Nat.le_trans hc hcm
  go_enter Try.func24, Try.ntmps24
  go_wp2_with fail
  refine (open_any a c ds w hx hw hc hl hcm).mono ?_
  rintro e w1 ⟨rfl, r1, b1⟩
  have R1 := Lib.hid r1
  have B1 := Lib.hid b1
  have hR1 : w.heap.size < w1.heap.size := r1.lt
  clear hx hw hc hcm hl r1 b1
  go_wp2_with fail
  refine (bits_any w.heap.size 0 24 12 w1 R1.out (by omega) (by omega) (by omega) (by omega)).mono ?_
  rintro e w2 ⟨xs, ad, n, cap, p2, rfl, hn, hsm, hgr, hrd, hp2, hgn⟩
  have HG2 := Lib.hid hgr
  have R2 := Lib.hid hrd
  have B2 := Lib.hid (below_R B1.out hgn)
  obtain rfl : xs.length = n := hgr.len
  clear hsm hgr hrd hgn R1 B1
  go_wp2_with fail
  refine (generator_any w.heap.size p2 12 w2 R2.out (by omega) (by omega) (by omega)).mono ?_
  rintro e w3 ⟨g, hg, rfl, p3, _, _, g3⟩
  have HP : Hid (ListNum w (.returned (.tuple #[.slice (some ad) xs.length cap, .int .i64 g])) w3) :=
    ⟨xs, some ad, cap, g, rfl, ⟨by omega, HG2.out.room⟩, hg, Ints.grownR HG2.out g3 hR1, below_R B2.out g3⟩
  clear g3 hg
  go_wp2
  go_ret2
  exact HP.out
set_option maxHeartbeats 1000000 in
theorem drawCheckAppend_any (a : Option Addr) (c : Nat) (ds : List Int) (w : World) (hx : Ints .u8 w w.heap.size a ds) (hw : ∀ n ∈ ds, isByte n) (hc : ds.length ≤ c) (hcm : c ≤ maxLen) :
    Calls Try.prog 30 #[.slice a ds.length c] w (ListNum w) := by
  have hl : ds.length ≤ maxLen := Nat.le_trans hc hcm
  go_enter Try.func30, Try.ntmps30
  go_wp2_with fail
  refine (open_any a c ds w hx hw hc hl hcm).mono ?_
  rintro e w1 ⟨rfl, r1, b1⟩
  have R1 := Lib.hid r1
  have B1 := Lib.hid b1
  have hR1 : w.heap.size < w1.heap.size := r1.lt
  clear hx hw hc hcm hl r1 b1
  go_wp2_with fail
  refine (bits_any w.heap.size 0 24 12 w1 R1.out (by omega) (by omega) (by omega) (by omega)).mono ?_
  rintro e w2 ⟨xs, ad, n, cap, p2, rfl, hn, hsm, hgr, hrd, hp2, hgn⟩
  have HG2 := Lib.hid hgr
  have R2 := Lib.hid hrd
  have B2 := Lib.hid (below_R B1.out hgn)
  obtain rfl : xs.length = n := hgr.len
  clear hsm hgr hrd hgn R1 B1
  go_wp2_with fail
  refine (odd_any w.heap.size p2 14 w2 R2.out (by omega) (by omega) (by omega)).mono ?_
  rintro e w3 ⟨b3, rfl, r3, g3⟩
  have R3 := Lib.hid r3
  have B3 := Lib.hid (below_R B2.out g3)
  have HG3 := Lib.hid (HG2.out.grownR g3 hR1)
  clear r3 g3 R2 B2 HG2
  cases b3
  · go_wp2_with fail
    refine (generator_any w.heap.size (p2 + 1) 12 w3 R3.out (by omega) (by omega) (by omega)).mono ?_
    rintro e w4 ⟨g, hg, rfl, p4, _, _, g4⟩
    have HP : Hid (ListNum w (.returned (.tuple #[.slice (some ad) xs.length cap, .int .i64 g])) w4) :=
      ⟨xs, some ad, cap, g, rfl, ⟨by omega, HG3.out.room⟩, hg, Ints.grownR HG3.out g4 hR1, below_R B3.out g4⟩
    clear g4 hg
    go_wp2
    go_ret2
    exact HP.out
  · go_wp2_with fail
    refine (pick_any w.heap.size (p2 + 1) 6 w3 R3.out (by omega) (by omega) (by omega)).mono ?_
    rintro e w4 ⟨v4, ⟨hv4, hv4'⟩, rfl, r4, g4⟩
    obtain ⟨k, rfl⟩ := Int.eq_ofNat_of_zero_le hv4
    obtain ⟨n, hn⟩ : ∃ n, n = 1019 + k := ⟨_, rfl⟩
    have hsum : (1019 : Int) + (k : Int) = (n : Int) := by omega
    have hnl : n ≤ 1100 := by omega
    have R4 := Lib.hid r4
    have B4 := Lib.hid (below_R B3.out g4)
    have hs4 : w.heap.size < w4.heap.size := R4.out.lt
    have hmk := run_make_row' (P := Try.prog) 28 3 (.int .i64 0) 8 Try.underlying28 Try.infoInt rfl .i64 .i64 n (by omega) (by omega)
    clear r4 g4 hn hv4 hv4' R3 B3 HG3
    go_wp2_with fail
    refine (generator_any w.heap.size (p2 + 1 + 1) 12 _ (R4.out.alloc _) (by omega) (by omega) (by omega)).mono ?_
    rintro e w5 ⟨g, hg, rfl, p5, _, _, g5⟩
    have HP : Hid (ListNum w (.returned (.tuple #[.slice (some ⟨w4.heap.size, 0, none⟩) n n, .int .i64 g])) w5) := by
      exact ⟨zeros n, _, _, g, by rw [zeros_length], ⟨by rw [zeros_length]; exact hnl, by rw [zeros_length]; exact Nat.le_refl _, by unfold maxLen; omega⟩, hg, Ints.grownR (grow_made w4 n (by unfold maxLen; omega)) g5 hs4, below_R (B4.out.alloc B4.out.size _) g5⟩
    clear g5 hg hmk
    go_wp2
    go_ret2
    exact HP.out
set_option maxHeartbeats 1000000 in
theorem drawCheckPasses_any (a : Option Addr) (c : Nat) (ds : List Int) (w : World) (hx : Ints .u8 w w.heap.size a ds) (hw : ∀ n ∈ ds, isByte n) (hc : ds.length ≤ c) (hcm : c ≤ maxLen) :
    Calls Try.prog 34 #[.slice a ds.length c] w (ListNum w) := by
  have hl : ds.length ≤ maxLen := Nat.le_trans hc hcm
  go_enter Try.func34, Try.ntmps34
  go_wp2_with fail
  refine (open_any a c ds w hx hw hc hl hcm).mono ?_
  rintro e w1 ⟨rfl, r1, b1⟩
  have R1 := Lib.hid r1
  have B1 := Lib.hid b1
  have hR1 : w.heap.size < w1.heap.size := r1.lt
  clear hx hw hc hcm hl r1 b1
  go_wp2_with fail
  refine (generator_any w.heap.size 0 9 w1 R1.out (by omega) (by omega) (by omega)).mono ?_
  rintro e w2 ⟨g, hg, rfl, p2, hp2, r2, g2⟩
  have HGb := Lib.hid hg
  have R2 := Lib.hid r2
  have B2 := Lib.hid (below_R B1.out g2)
  have hR2 : w.heap.size < w2.heap.size := r2.lt
  clear hg r2 g2 R1 B1
  go_wp2_with fail
  refine (bits_any w.heap.size p2 24 12 w2 R2.out (by omega) (by omega) (by omega) (by omega)).mono ?_
  rintro e w3 ⟨xs, ad, n, cap, p3, rfl, hn, hsm, hgr, hrd, hp3, hgn⟩
  have HG3 := Lib.hid hgr
  have R3 := Lib.hid hrd
  have B3 := Lib.hid (below_R B2.out hgn)
  obtain rfl : xs.length = n := hgr.len
  clear hsm hgr hrd hgn R2 B2
  go_wp2_with fail
  refine (pick_any w.heap.size p3 2 w3 R3.out (by omega) (by omega) (by omega)).mono ?_
  rintro e w4 ⟨v4, ⟨hv4, hv4'⟩, rfl, r4, g4⟩
  have R4 := Lib.hid r4
  have B4 := Lib.hid (below_R B3.out g4)
  have HG4 := Lib.hid (HG3.out.grownR g4 hR2)
  have hR4 : w.heap.size < w4.heap.size := r4.lt
  clear r4 g4 R3 B3 HG3
  by_cases hz : v4 = 0
  · have hzb : (v4 == 0) = true := by simp [hz]
    clear hz
    go_wp2_with fail
    refine (specCheckAppend_any (some ad) cap xs g w4 HG4.out.ints (by unfold maxLen; omega)).mono ?_
    have hS := appOr_small (g := g) (xs := xs) (by omega)
    have HBit := Lib.hid (fun j (hj : j < (appOr g xs).length) => appOr_bits hj)
    generalize appOr g xs = S at *
    rintro e w5 ⟨v5, c5, rfl, room5, o5, b5⟩
    have O5 := Lib.hid (own_of_list o5)
    have B5 := Lib.hid (Below.next B4.out (by omega) b5)
    have R5 := Lib.hid (R4.out.below b5 hR4)
    have HRoom := Lib.hid room5
    have hR5 : w.heap.size < w5.heap.size := R5.out.lt
    clear o5 b5 room5 R4 B4 HG4
    by_cases h0 : S.length = 0
    · have HP : Hid (ListNum w (.returned (.tuple #[.slice v5 S.length c5, .int .i64 g])) w5) := ⟨S, v5, c5, g, rfl, ⟨by omega, HRoom.out⟩, HGb.out, O5.out.ints, B5.out⟩
      have hgt : ¬ (0 < (S.length : Int)) := by omega
      clear h0
      go_wp2
      go_ret2
      exact HP.out
    · have hgt : 0 < S.length := by omega
      clear h0
      go_wp2_with fail
      refine (odd_any w.heap.size (p3 + 1) 4 w5 R5.out (by omega) (by omega) (by omega)).mono ?_
      rintro e w6 ⟨b6, rfl, r6, g6⟩
      have R6 := Lib.hid r6
      have B6 := Lib.hid (below_R B5.out g6)
      have O6 := Lib.hid (O5.out.grownR g6 hR4)
      have hs6 : w5.heap.size ≤ w6.heap.size := g6.size
      clear r6 g6 R5 B5 O5
      cases b6
      · have HP : Hid (ListNum w (.returned (.tuple #[.slice v5 S.length c5, .int .i64 g])) w6) := ⟨S, v5, c5, g, rfl, ⟨by omega, HRoom.out⟩, HGb.out, O6.out.ints.more hs6, B6.out⟩
        go_wp2
        go_ret2
        exact HP.out
      · go_wp2_with fail
        refine (pick_any w.heap.size (p3 + 1 + 1) (S.length : Int) w6 R6.out (by omega) (by omega) (by omega)).mono ?_
        rintro e w7 ⟨v7, ⟨hv7, hv7'⟩, rfl, r7, g7⟩
        obtain ⟨k, rfl⟩ := Int.eq_ofNat_of_zero_le hv7
        have hk : k < S.length := by omega
        have B7 := Lib.hid (below_R B6.out g7)
        obtain ⟨b, cp, f, rfl, hb1, hb2, hcp, hrow, hf⟩ := (O6.out.grownR g7 hR4) (by intro e; rw [e] at hk; simp at hk)
        have hc1 : w7.cell? ⟨b, k, none⟩ = some (.int .i64 (el S k)) := by rw [hrow.cell (by omega), hf k hk]
        have hfz := hrow.frozen k
        obtain ⟨x, hx⟩ : ∃ x, x = el S k := ⟨_, rfl⟩
        have hx01 : x = 0 ∨ x = 1 := by rw [hx]; exact HBit.out k hk
        have hx0 : 0 ≤ x := by omega
        have hx1 : x ≤ 1 := by omega
        rw [← hx] at hc1
        have HP : Hid (ListNum w (.returned (.tuple #[.slice (some ⟨b, 0, none⟩) S.length c5, .int .i64 g])) (w7.setCell ⟨b, k, none⟩ (.int .i64 (1 - x)))) :=
          ⟨S.set k (1 - x), some ⟨b, 0, none⟩, c5, g, by rw [List.length_set], ⟨by rw [List.length_set]; omega, by rw [List.length_set]; exact HRoom.out.1, HRoom.out.2⟩, HGb.out, ints_set hrow hf hcp, B7.out.setCell (by show w.heap.size ≤ b; omega) _⟩
        clear r7 g7 hrow hf hx hx01 hv7 hv7' R6 B6 O6
        go_wp2
        go_ret2
        exact HP.out
  · have hzb : (v4 == 0) = false := by simp [hz]
    have HP : Hid (ListNum w (.returned (.tuple #[.slice (some ad) xs.length cap, .int .i64 g])) w4) := ⟨xs, some ad, cap, g, rfl, ⟨by omega, HG4.out.room⟩, HGb.out, HG4.out.ints, B4.out⟩
    clear hz
    go_wp2
    go_ret2
    exact HP.out
theorem results_tmp4 {fn : Func} {t u v x : Tmp} (h : fn.results = #[.tmp t, .tmp u, .tmp v, .tmp x]) (tmps : Array Value) (P : Program) (w : World) :
    (results fn tmps).run P w = .ok (.tuple #[tmps.getD t undef, tmps.getD u undef, tmps.getD v undef, tmps.getD x undef]) w := by
  simp [results, h]
/-- What the law of BurstDetected draws. -/
def BurstDraw (w : World) (e : Ending) (w' : World) : Prop :=
  ∃ xs a c g i bs a' c', e = .returned (.tuple #[.slice a xs.length c, .int .i64 g, .int .i64 i, .slice a' bs.length c']) ∧ (xs.length ≤ 1100 ∧ xs.length ≤ c ∧ c ≤ maxLen) ∧ (-10 ≤ g ∧ g ≤ 131073) ∧ (-10 ≤ i ∧ i ≤ 2000) ∧ bs.length ≤ 100 ∧
    Ints .i64 w' w'.heap.size a xs ∧ Ints .i64 w' w'.heap.size a' bs ∧ Below w.heap.size w w'
set_option maxHeartbeats 1000000 in
theorem drawBurstDetected_any (a : Option Addr) (c : Nat) (ds : List Int) (w : World) (hx : Ints .u8 w w.heap.size a ds) (hw : ∀ n ∈ ds, isByte n) (hc : ds.length ≤ c) (hcm : c ≤ maxLen) :
    Calls Try.prog 36 #[.slice a ds.length c] w (BurstDraw w) := by
  have hl : ds.length ≤ maxLen := Nat.le_trans hc hcm
  go_enter Try.func36, Try.ntmps36
  go_wp2_with fail
  refine (open_any a c ds w hx hw hc hl hcm).mono ?_
  rintro e w1 ⟨rfl, r1, b1⟩
  have R1 := Lib.hid r1
  have B1 := Lib.hid b1
  have hR1 : w.heap.size < w1.heap.size := r1.lt
  clear hx hw hc hcm hl r1 b1
  go_wp2_with fail
  refine (generator_any w.heap.size 0 14 w1 R1.out (by omega) (by omega) (by omega)).mono ?_
  rintro e w2 ⟨g, hg, rfl, p2, hp2, r2, g2⟩
  have HGb := Lib.hid hg
  have R2 := Lib.hid r2
  have B2 := Lib.hid (below_R B1.out g2)
  have hR2 : w.heap.size < w2.heap.size := r2.lt
  clear hg r2 g2 R1 B1
  go_wp2_with fail
  refine (bitsZ_any w.heap.size p2 24 w2 R2.out (by omega) (by omega)).mono ?_
  rintro e w3 ⟨xs, ad, n, cap, p3, rfl, hn, hsm, hgr, hrd, hp3, hgn⟩
  have HG3 := Lib.hid hgr
  have R3 := Lib.hid hrd
  have B3 := Lib.hid (below_R B2.out hgn)
  obtain rfl : xs.length = n := hgr.len
  have hR3 : w.heap.size < w3.heap.size := hrd.lt
  clear hsm hgr hrd hgn R2 B2
  go_wp2_with fail
  refine (specCheckAppend_any (some ad) cap xs g w3 HG3.out.ints (by unfold maxLen; omega)).mono ?_
  have hS := appOr_small (g := g) (xs := xs) (by omega)
  generalize appOr g xs = S at *
  rintro e w5 ⟨v5, c5, rfl, room5, o5, b5⟩
  have O5 := Lib.hid (own_of_list o5)
  have B5 := Lib.hid (Below.next B3.out (by omega) b5)
  have R5 := Lib.hid (R3.out.below b5 hR3)
  have HRoom := Lib.hid room5
  have hR5 : w.heap.size < w5.heap.size := R5.out.lt
  clear o5 b5 room5 R3 B3 HG3
  go_wp2_with fail
  refine (bits_any w.heap.size p3 12 16 w5 R5.out (by omega) (by omega) (by omega) (by omega)).mono ?_
  rintro e w6 ⟨bs, ad6, n6, cap6, p6, rfl, hn6, hsm6, hgr6, hrd6, hp6, hgn6⟩
  have HG6 := Lib.hid hgr6
  have R6 := Lib.hid hrd6
  have B6 := Lib.hid (below_R B5.out hgn6)
  have O6 := Lib.hid (O5.out.grownR hgn6 hR3)
  have hs6 : w5.heap.size ≤ w6.heap.size := hgn6.size
  obtain rfl : bs.length = n6 := hgr6.len
  clear hsm6 hgr6 hrd6 hgn6 R5 B5 O5
  go_wp2_with fail
  refine (odd_any w.heap.size p6 12 w6 R6.out (by omega) (by omega) (by omega)).mono ?_
  rintro e w7 ⟨b7, rfl, r7, g7⟩
  have R7 := Lib.hid r7
  have B7 := Lib.hid (below_R B6.out g7)
  have O7 := Lib.hid (O6.out.grownR g7 hR3)
  have HG7 := Lib.hid (HG6.out.grownR g7 hR5)
  have hs7 : w6.heap.size ≤ w7.heap.size := g7.size
  clear r7 g7 R6 B6 O6 HG6
  cases b7
  · go_wp2_with fail
    refine (pick_any w.heap.size (p6 + 1) ((S.length : Int) + 2) w7 R7.out (by omega) (by omega) (by omega)).mono ?_
    rintro e w8 ⟨v8, ⟨hv8, hv8'⟩, rfl, r8, g8⟩
    have HP : Hid (BurstDraw w (.returned (.tuple #[.slice v5 S.length c5, .int .i64 g, .int .i64 (v8 - 1), .slice (some ad6) bs.length cap6])) w8) :=
      ⟨S, v5, c5, g, v8 - 1, bs, some ad6, cap6, rfl, ⟨by omega, HRoom.out⟩, HGb.out, ⟨by omega, by omega⟩, by omega, (O7.out.grownR g8 hR3).ints.more (by have := g8.size; omega), Ints.grownR HG7.out g8 hR5, below_R B7.out g8⟩
    clear r8 g8
    go_wp2
    try simp only [Exit.inBlock, Exit.then]
    refine bodyPost_ret (results_tmp4 rfl _ _ _) rfl ?_
    exact HP.out
  · go_wp2_with fail
    refine (bits_any w.heap.size (p6 + 1) 24 3 w7 R7.out (by omega) (by omega) (by omega) (by omega)).mono ?_
    rintro e w8 ⟨ys, ad8, n8, cap8, p8, rfl, hn8, hsm8, hgr8, hrd8, hp8, hgn8⟩
    have HG8 := Lib.hid hgr8
    have R8 := Lib.hid hrd8
    have B8 := Lib.hid (below_R B7.out hgn8)
    have HB8 := Lib.hid (HG7.out.grownR hgn8 hR5)
    have hR7 : w.heap.size < w7.heap.size := R7.out.lt
    obtain rfl : ys.length = n8 := hgr8.len
    clear hsm8 hgr8 hrd8 hgn8 R7 B7 HG7 O7
    go_wp2_with fail
    refine (pick_any w.heap.size p8 ((ys.length : Int) + 2) w8 R8.out (by omega) (by omega) (by omega)).mono ?_
    rintro e w9 ⟨v9, ⟨hv9, hv9'⟩, rfl, r9, g9⟩
    have HP : Hid (BurstDraw w (.returned (.tuple #[.slice (some ad8) ys.length cap8, .int .i64 g, .int .i64 (v9 - 1), .slice (some ad6) bs.length cap6])) w9) :=
      ⟨ys, some ad8, cap8, g, v9 - 1, bs, some ad6, cap6, rfl, ⟨by omega, HG8.out.room⟩, HGb.out, ⟨by omega, by omega⟩, by omega, Ints.grownR HG8.out g9 hR7, Ints.grownR HB8.out g9 hR5, below_R B8.out g9⟩
    clear r9 g9
    go_wp2
    try simp only [Exit.inBlock, Exit.then]
    refine bodyPost_ret (results_tmp4 rfl _ _ _) rfl ?_
    exact HP.out
end Go.Proofs.Ytnmpeeailljdaaa
