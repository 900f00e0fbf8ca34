/-
  What the laws of chapter 12 draw. No condition.
-/
import Derived.Test.YtnnknfpkbhcghaaWs6
import Derived.Test.YtnnknfpkbhcghaaWs7
import Derived.Test.YtnnknfpkbhcghaaDraws
namespace Go.Proofs.Ytnnknfpkbhcghaa
open Go.RowKit

/-- n drawn bits, in memory of their own; only the reader was written besides. -/
def FixV (R p n : Nat) (w : World) (e : Ending) (w' : World) : Prop :=
  ∃ xs ad cap p', e = .returned (.slice (some ad) n cap) ∧ bitsOk xs = true ∧ Grow .i64 3 w' w.heap.size (some ad) n cap xs ∧ Rd w' R p' ∧ p' ≤ p + n ∧ w.grownBy w' (some R)
def FixW (R p : Nat) (w : World) (m : Nat) (v : Option Addr) (cap : Nat) (wr : World) : Prop :=
  ∃ xs ad p', v = some ad ∧ (∀ x ∈ xs, isBit x = true) ∧ Grow .i64 3 wr w.heap.size v m cap xs ∧ Rd wr R p' ∧ p' ≤ p + m ∧ w.grownBy wr (some R)
theorem bitW_snoc {xs : List Int} {x : Int} (h : ∀ y ∈ xs, isBit y = true) (hx : isBit x = true) : ∀ y ∈ xs ++ [x], isBit y = true := fun y hy => by
  rcases List.mem_append.1 hy with hy | hy
  · exact h y hy
  · simp at hy; subst hy; exact hx
theorem bitsW_ok {xs : List Int} (h : ∀ y ∈ xs, isBit y = true) (hl : xs.length ≤ 1024) : bitsOk xs = true := by
  simp only [bitsOk, Bool.and_eq_true, decide_eq_true_eq, List.all_eq_true]
  exact ⟨hl, h⟩
set_option maxHeartbeats 2000000 in
theorem fixedW_any (R p n : Nat) (w : World) (hr : Rd w R p) (hp : p ≤ 549755813888) (hn : n ≤ 1000) :
    Calls Try.prog 51 #[.pointer (some ⟨R, 0, none⟩), .int .i64 n, .int .i64 0] w (FixV R p n w) := by
  have HR0 := Lib.hid hr
  have hRw := hr.lt
  clear hr
  go_enter Try.func51, Try.ntmps51
  go_wp2
  go_loopw [7, 8] (fun s i wr => ∃ (m : Nat) (v : Option Addr) (cap : Nat), m ≤ n ∧ i = .int .i64 m ∧ s = .slice v m cap ∧ FixW R p w m v cap wr) (fun _ i _ => n - (intOf i).toNat)
  case atStart => exact ⟨0, _, _, Nat.zero_le _, rfl, rfl, [], _, p, rfl, by simp, Grow.lit0 _ _ _ _ (Nat.le_refl _), HR0.out.alloc _, by omega, grown_alloc (World.grownBy.refl w (some R)) _⟩
  case round =>
    obtain ⟨m, v, cap, hm, rfl, rfl, xs, ad, p', rfl, hsm, hgr, hrd, hp', hgn⟩ := hrel
    have HG := Lib.hid hgr
    have HS := Lib.hid hsm
    have HR := Lib.hid hrd
    have HN := Lib.hid hgn
    have hsz : w.heap.size ≤ wr.heap.size := hgn.size
    clear hgr hsm hrd hgn
    by_cases hlt : m < n
    · go_wp2_with fail
      refine (pick_any R p' 2 wr HR.out (by omega) (by omega) (by omega)).mono ?_
      rintro e w2 ⟨x, ⟨hx0, hx1⟩, rfl, r2, g2⟩
      have R2 := Lib.hid r2
      have N2 := Lib.hid (grown_trans HN.out g2)
      have L2 := Lib.hid (HG.out.grownR g2 hRw)
      have hsz2 : w.heap.size ≤ w2.heap.size := by have := g2.size; omega
      have HB := Lib.hid (show isBit x = true by have : x = 0 ∨ x = 1 := by omega
                                                 rcases this with rfl | rfl <;> rfl)
      clear r2 g2
      go_wp2_with (at_builtin; refine wpList_append1 (.tmp 15) (.tmp 18) w.heap.size (some ad) m cap xs ⟨w2.heap.size, 0, none⟩ x rfl rfl rfl rfl (L2.out.alloc _) (by simp) (by omega) (by simp; omega) ?_; intro a3 cap3 w3 hg3 hb3; have HG3 := Lib.hid hg3; have HB3 := Lib.hid hb3; clear hg3 hb3)
      go_roundw
      case rel =>
        obtain ⟨ad3, rfl⟩ := HG3.out.addr
        exact ⟨m + 1, some ad3, cap3, by omega, by go_num, rfl, _, ad3, p' + 1, rfl, bitW_snoc HS.out HB.out, HG3.out, (R2.out.alloc _).below HB3.out hRw, by omega, grown_below (grown_alloc N2.out _) HB3.out (Nat.le_refl _)⟩
      case measure => simp [intOf]; omega
    · obtain rfl : n = m := by omega
      have HL := Lib.hid (bitsW_ok HS.out (by rw [HG.out.len]; omega))
      go_wp2_with fail
      refine (oddZ_any R wr).mono ?_
      rintro e w' ⟨rfl, rfl⟩
      go_wp2
      go_ret
      exact ⟨xs, ad, cap, p', rfl, HL.out, HG.out, HR.out, by omega, HN.out⟩

/-- Spread bits that were drawn, as they lie. -/
theorem sprLen {xs : List Int} {n K : Nat} (h : bitsOk xs = true) (hl : xs.length = n) (hn : n ≤ 32) (hK : K < 8) : (sprOr xs (K : Int)).length = 8 * n := by
  rw [sprOr_yes h (by omega) hK, spr_length, hl]
theorem sprIn (xs : List Int) (K : Int) : chOk 1 (sprOr xs K) = true := by
  unfold sprOr
  split
  · next h => exact chOk_spr h.1 _
  · rfl
theorem ints_fromW {k : IntKind} {w : World} {B b off m : Nat} {xs : List Int} (hx : Ints k w B (some ⟨b, off, none⟩) xs) : Ints k w B (some ⟨b, off + m, none⟩) (xs.drop m) := fun hne => by
  have hne' : xs ≠ [] := by intro e; subst e; simp at hne
  obtain ⟨b', off', e, hb, hc⟩ := hx hne'
  injection e with e
  injection e with e1 e2
  subst e1 e2
  refine ⟨b, off + m, rfl, hb, fun i hi => ?_⟩
  rw [List.length_drop] at hi
  rw [Nat.add_assoc, hc (m + i) (by omega)]
  simp [el]
theorem cell_grownW {w w' : World} {R i : Nat} {cs : Array Value} {t : TypeId} (hg : (w.alloc (.cells cs t)).grownBy w' (some R)) (hR : R < w.heap.size) : w'.cell? ⟨w.heap.size, i, none⟩ = cs[i]? := by
  rw [World.cell?_of_block (hg.block w.heap.size (by simp) (fun e => by injection e; omega)), cell_of_row _ _ _ _ _ _ (heap_alloc_last w _)]
theorem below_grownW {w a b : World} {R : Nat} (h : Below w.heap.size w a) (g : a.grownBy b (some R)) (hR : w.heap.size ≤ R) : Below w.heap.size w b := h.grown g h.size (fun k e => by injection e; omega)
/-- What drawing leaves: two lists; a list and a number. -/
def LstW (w : World) (a : Option Addr) (c : Nat) (xs : List Int) : Prop := (xs.length ≤ 33 ∧ xs.length ≤ c ∧ c ≤ maxLen) ∧ Ints .i64 w w.heap.size a xs
def ChP2 (w : World) (e : Ending) (w' : World) : Prop :=
  ∃ xs a c ys a' c', e = .returned (.tuple #[.slice a xs.length c, .slice a' ys.length c']) ∧ LstW w' a c xs ∧ LstW w' a' c' ys ∧ Below w.heap.size w w'
def ChP1 (M : Int) (w : World) (e : Ending) (w' : World) : Prop :=
  ∃ xs a c k, e = .returned (.tuple #[.slice a xs.length c, .int .i64 k]) ∧ (-1 ≤ k ∧ k ≤ 16) ∧ (∀ x ∈ xs, -M ≤ x ∧ x ≤ M) ∧ LstW w' a c xs ∧ Below w.heap.size w w'
theorem lstW_grow {w : World} {base n c : Nat} {a : Option Addr} {xs : List Int} (h : Grow .i64 3 w base a n c xs) (hn : n ≤ 33) : LstW w a c xs := ⟨⟨by rw [h.len]; exact hn, by rw [h.len]; exact h.room.1, h.room.2⟩, h.ints⟩
set_option maxHeartbeats 4000000 in
theorem drawAddChips_any (a : Option Addr) (c : Nat) (ds : List Int) (w : World) (hx : Ints .u8 w w.heap.size a ds) (hw : ∀ n ∈ ds, isByte n) (hc : ds.length ≤ c) (hcm : c ≤ maxLen) :
    Calls Try.prog 25 #[.slice a ds.length c] w (ChP2 w) := by
  have hl : ds.length ≤ maxLen := Nat.le_trans hc hcm
  go_enter Try.func25, Try.ntmps25
  go_wp2_with fail
  refine (open_any a c ds w hx hw hc hl hcm).mono ?_
  rintro e w1 ⟨rfl, r1, b1⟩
  have h1 : w.heap.size < w1.heap.size := r1.lt
  have R1 := Lib.hid r1
  have B1 := Lib.hid b1
  clear hx hw hc hcm hl r1 b1
  go_wp2_with fail
  refine (fixedW_any w.heap.size 0 3 w1 R1.out (by omega) (by omega)).mono ?_
  rintro e w2 ⟨xs, ad2, c2, p2, rfl, ok2, gr2, r2, hp2, g2⟩
  have h2 : w.heap.size < w2.heap.size := r2.lt
  have R2 := Lib.hid r2
  have B2 := Lib.hid (below_grownW B1.out g2 (Nat.le_refl _))
  have OK2 := Lib.hid ok2
  have L2 := Lib.hid gr2
  clear r2 g2 ok2 gr2
  go_wp2_with fail
  refine (pick_any w.heap.size p2 8 w2 R2.out (by omega) (by omega) (by omega)).mono ?_
  rintro e w3 ⟨v3, ⟨hv3, hv3'⟩, rfl, r3, g3⟩
  obtain ⟨K, rfl⟩ := Int.eq_ofNat_of_zero_le hv3
  have h3 : w.heap.size < w3.heap.size := r3.lt
  have R3 := Lib.hid r3
  have B3 := Lib.hid (below_grownW B2.out g3 (Nat.le_refl _))
  have L3 := Lib.hid (L2.out.grownR g3 h1)
  have hlx := L3.out.len
  have HLen := Lib.hid (sprLen OK2.out hlx (by omega) (show K < 8 by omega))
  have HS := Lib.hid (specSpreadBits_new (some ad2) c2 xs (K : Int) w3 L3.out.ints (by rw [hlx]; decide))
  rw [hlx] at HS
  clear r3 g3 hv3 hv3' hlx
  go_wp2_with fail
  refine HS.out.mono ?_
  rintro e w4 ⟨aA, nA, cA, rfl, gA, b4⟩
  have hnA : nA = 24 := by rw [← gA.len, HLen.out]
  subst hnA
  have R4 := Lib.hid (R3.out.below b4 h3)
  have B4 := Lib.hid (Below.next B3.out (Nat.le_refl _) b4)
  have A4 := Lib.hid gA
  obtain ⟨bA, _, rfl, hbA, hbA4, _, _, _⟩ := gA.row (by omega)
  have h4 : w.heap.size < w4.heap.size := R4.out.lt
  clear gA b4 HS HLen L3 OK2
  generalize sprOr xs (K : Int) = us at *
  go_wp2_with fail
  refine (fixedW_any w.heap.size (p2 + 1) 3 w4 R4.out (by omega) (by omega)).mono ?_
  rintro e w5 ⟨ys, ad5, c5, p5, rfl, ok5, gr5, r5, hp5, g5⟩
  have h5 : w.heap.size < w5.heap.size := r5.lt
  have R5 := Lib.hid r5
  have B5 := Lib.hid (below_grownW B4.out g5 (Nat.le_refl _))
  have A5 := Lib.hid (A4.out.grownR g5 h3)
  have s45 := g5.size
  have OK5 := Lib.hid ok5
  have L5 := Lib.hid gr5
  clear r5 g5 ok5 gr5
  go_wp2_with fail
  refine (pick_any w.heap.size p5 8 w5 R5.out (by omega) (by omega) (by omega)).mono ?_
  rintro e w6 ⟨v6, ⟨hv6, hv6'⟩, rfl, r6, g6⟩
  obtain ⟨J, rfl⟩ := Int.eq_ofNat_of_zero_le hv6
  have h6 : w.heap.size < w6.heap.size := r6.lt
  have R6 := Lib.hid r6
  have B6 := Lib.hid (below_grownW B5.out g6 (Nat.le_refl _))
  have A6 := Lib.hid (A5.out.grownR g6 h3)
  have L6 := Lib.hid (L5.out.grownR g6 h4)
  have hly := L6.out.len
  have HLen := Lib.hid (sprLen OK5.out hly (by omega) (show J < 8 by omega))
  have HS := Lib.hid (specSpreadBits_new (some ad5) c5 ys (J : Int) w6 L6.out.ints (by rw [hly]; decide))
  rw [hly] at HS
  have HbA := Lib.hid (show bA < w6.heap.size from Nat.lt_of_lt_of_le hbA4 (Nat.le_trans s45 g6.size))
  clear r6 g6 hv6 hv6' hly hbA4 s45
  go_wp2_with fail
  refine HS.out.mono ?_
  rintro e w7 ⟨aB, nB, cB, rfl, gB, b7⟩
  have hnB : nB = 24 := by rw [← gB.len, HLen.out]
  subst hnB
  have R7 := Lib.hid (R6.out.below b7 h6)
  have B7 := Lib.hid (Below.next B6.out (Nat.le_refl _) b7)
  have A7 := Lib.hid (A6.out.below b7)
  have C7 := Lib.hid gB
  have h7 : w.heap.size < w7.heap.size := R7.out.lt
  clear gB b7 HS HLen L6 OK5
  generalize sprOr ys (J : Int) = vs at *
  go_wp2_with fail
  refine (pick_any w.heap.size (p5 + 1) 9 w7 R7.out (by omega) (by omega) (by omega)).mono ?_
  rintro e w8 ⟨v8, ⟨hv8, hv8'⟩, rfl, r8, g8⟩
  have h8 : w.heap.size < w8.heap.size := r8.lt
  have R8 := Lib.hid r8
  have B8 := Lib.hid (below_grownW B7.out g8 (Nat.le_refl _))
  have A8 := Lib.hid (A7.out.grownR g8 h3)
  have C8 := Lib.hid (C7.out.grownR g8 h6)
  clear r8 g8
  by_cases z0 : v8 = 0
  · subst z0
    obtain ⟨bB, f, rfl, _, _, hcB, _, _⟩ := C8.out.row (by omega)
    have HD := Lib.hid (show LstW w8 (some ⟨bB, 1, none⟩) (cB - 1) (vs.drop 1) from ⟨⟨by rw [List.length_drop, C8.out.len]; omega, by rw [List.length_drop, C8.out.len]; omega, by have := C8.out.room.2; omega⟩, by have := ints_fromW (m := 1) C8.out.ints; rwa [Nat.zero_add] at this⟩)
    have HLd := Lib.hid (show (vs.drop 1).length = 23 by rw [List.length_drop, C8.out.len])
    have HLa := Lib.hid A8.out.len
    have hc1 : ¬ cB = 1 := by omega
    have hc2 : 1 ≤ cB := by omega
    have HP := Lib.hid (show ChP2 w (.returned (.tuple #[.slice (some ⟨bA, 0, none⟩) 24 cA, .slice (some ⟨bB, 1, none⟩) 23 (cB - 1)])) w8 from
      ⟨us, _, cA, vs.drop 1, _, cB - 1, by rw [HLd.out, HLa.out], lstW_grow A8.out (by omega), HD.out, B8.out⟩)
    clear hcB hv8 hv8'
    go_wp2
    go_ret2
    exact HP.out
  · have z0' : (v8 == 0) = false := by simpa using z0
    by_cases z1 : v8 = 1
    · subst z1
      clear z0 z0' hv8 hv8'
      go_wp2_with fail
      refine (pick_any w.heap.size (p5 + 1 + 1) 3 _ (R8.out.alloc _) (by omega) (by omega) (by omega)).mono ?_
      rintro e w9 ⟨v9, ⟨hv9, hv9'⟩, rfl, r9, g9⟩
      obtain ⟨j, rfl⟩ := Int.eq_ofNat_of_zero_le hv9
      have hj : j < 3 := by omega
      have hcell : ∃ x : Int, w9.cell? ⟨w8.heap.size, j, none⟩ = some (.int .i64 x) := by
        rw [cell_grownW g9 h8]
        match j, hj with
        | 0, _ => exact ⟨_, rfl⟩
        | 1, _ => exact ⟨_, rfl⟩
        | 2, _ => exact ⟨_, rfl⟩
        | (m + 3), h => exact absurd h (by omega)
      obtain ⟨x, hc9⟩ := hcell
      have B9 := Lib.hid (below_grownW (Below.alloc B8.out (Nat.le_of_lt h8) _) g9 (Nat.le_refl _))
      have A9 := Lib.hid ((A8.out.alloc _).grownR g9 h3)
      have C9 := Lib.hid ((C8.out.alloc _).grownR g9 h6)
      obtain ⟨⟨u, hcu⟩, hfu⟩ := grow_cell (i := 3) A9.out (by omega)
      have A10 := Lib.hid (A9.out.set 3 x)
      have C10 := Lib.hid (C9.out.keep (w' := w9.setCell ⟨bA, 3, none⟩ (.int .i64 x)) fun b hb _ => Below.heap_setCell w9 ⟨bA, 3, none⟩ _ _ (show b ≠ bA by have := HbA.out; omega))
      have B10 := Lib.hid (B9.out.setCell (p := ⟨bA, 3, none⟩) (by show w.heap.size ≤ bA; omega) (.int .i64 x))
      have HLa := Lib.hid A10.out.len
      have HLb := Lib.hid C10.out.len
      have HP := Lib.hid (show ChP2 w (.returned (.tuple #[.slice (some ⟨bA, 0, none⟩) 24 cA, .slice aB 24 cB])) (w9.setCell ⟨bA, 3, none⟩ (.int .i64 x)) from
        ⟨us.set 3 x, _, cA, vs, aB, cB, by rw [HLa.out, HLb.out], lstW_grow A10.out (by omega), lstW_grow C10.out (by omega), B10.out⟩)
      clear r9 g9 hv9 hv9'
      go_wp2
      go_ret2
      exact HP.out
    · have z1' : (v8 == 1) = false := by simpa using z1
      have HLa := Lib.hid A8.out.len
      have HLb := Lib.hid C8.out.len
      have HP := Lib.hid (show ChP2 w (.returned (.tuple #[.slice (some ⟨bA, 0, none⟩) 24 cA, .slice aB 24 cB])) w8 from
        ⟨us, _, cA, vs, aB, cB, by rw [HLa.out, HLb.out], lstW_grow A8.out (by omega), lstW_grow C8.out (by omega), B8.out⟩)
      clear z0 z1 hv8 hv8'
      go_wp2
      go_ret2
      exact HP.out
set_option maxHeartbeats 1000000 in
theorem drawWalshCode_any (a : Option Addr) (c : Nat) (ds : List Int) (w : World) (hx : Ints .u8 w w.heap.size a ds) (hw : ∀ n ∈ ds, isByte n) (hc : ds.length ≤ c) (hcm : c ≤ maxLen) :
    Calls Try.prog 14 #[.slice a ds.length c] w fun e w' => (∃ k : Int, (-1 ≤ k ∧ k ≤ 9) ∧ e = .returned (.int .i64 k)) ∧ Below w.heap.size w w' := by
  have hl : ds.length ≤ maxLen := Nat.le_trans hc hcm
  go_enter Try.func14, Try.ntmps14
  go_wp2_with fail
  refine (open_any a c ds w hx hw hc hl hcm).mono ?_
  rintro e w1 ⟨rfl, r1, b1⟩
  have R1 := Lib.hid r1
  have B1 := Lib.hid b1
  clear hx hw hc hcm hl r1 b1
  go_wp2_with fail
  refine (pick_any w.heap.size 0 11 w1 R1.out (by omega) (by omega) (by omega)).mono ?_
  rintro e w2 ⟨v, ⟨hv, hv'⟩, rfl, r2, g2⟩
  have B2 := Lib.hid (below_grownW B1.out g2 (Nat.le_refl _))
  have HV := Lib.hid (show -1 ≤ v - 1 ∧ v - 1 ≤ 9 by omega)
  clear r2 g2
  go_wp2
  go_ret
  exact ⟨⟨_, HV.out, rfl⟩, B2.out⟩
end Go.Proofs.Ytnnknfpkbhcghaa
