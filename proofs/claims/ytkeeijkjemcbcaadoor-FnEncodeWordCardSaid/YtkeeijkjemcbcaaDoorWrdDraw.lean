/-
  How the laws of the symbol code draw lists and words: what comes out, and what it leaves. Condition: the code has at most 2^20 bytes.
-/
import Derived.Test.YtkeeijkjemcbcaaDoorWrd12
import Derived.Test.YtkeeijkjemcbcaaDoorFldDraw
namespace Go.Proofs.YtkeeijkjemcbcaaDoor
open Go.RowKit

/-- A drawn list of n elements, all of them in the field. -/
def GoodPost (R p n : Nat) (w : World) (e : Ending) (w' : World) : Prop :=
  ∃ xs ad cap p', e = .returned (.slice (some ad) n cap) ∧ xs.all elOk = true ∧ Grow .i64 3 w' w.heap.size (some ad) n cap xs ∧ Rd w' R p' ∧ p' ≤ p + n ∧ w.grownBy w' (some R)
def GoodRel (R p : Nat) (w : World) (m : Nat) (v : Option Addr) (cap : Nat) (wr : World) : Prop :=
  ∃ xs ad p', v = some ad ∧ xs.all elOk = true ∧ Grow .i64 3 wr w.heap.size v m cap xs ∧ Rd wr R p' ∧ p' ≤ p + m ∧ w.grownBy wr (some R)
theorem elOk_pick {x : Int} (h0 : 0 ≤ x) (h1 : x < 16) : elOk x = true := by simp [elOk, h0, h1]
set_option maxHeartbeats 2000000 in
theorem elementsZ_any (R p n : Nat) (w : World) (hr : Rd w R p) (hp : p ≤ 274877906944) (hn : n ≤ 2000) :
    Calls Tryd.prog 32 #[.pointer (some ⟨R, 0, none⟩), .int .i64 n, .int .i64 0] w (GoodPost R p n w) := by
  have HR0 := Lib.hid hr
  have hRw := hr.lt
  clear hr
  go_enter Tryd.func32, Tryd.ntmps32
  go_wp2
  go_loopw [7, 8] (fun s i wr => ∃ (m : Nat) (v : Option Addr) (cap : Nat), m ≤ n ∧ i = .int .i64 m ∧ s = .slice v m cap ∧ GoodRel R p w m v cap wr) (fun _ i _ => n - (intOf i).toNat)
  case atStart => exact ⟨0, _, _, Nat.zero_le _, rfl, rfl, [], _, p, rfl, rfl, Grow.lit0 _ _ _ _ (Nat.le_refl _), HR0.out.alloc _, by omega, grown_alloc (World.grownBy.refl w (some R)) _⟩
  case round =>
    obtain ⟨m, v, cap, hm, rfl, rfl, xs, ad, p', rfl, hall, hgr, hrd, hp', hgn⟩ := hrel
    have HA := Lib.hid hall
    have HG := Lib.hid hgr
    have HR := Lib.hid hrd
    have HN := Lib.hid hgn
    have hsz : w.heap.size ≤ wr.heap.size := hgn.size
    clear hgr hrd hgn hall
    by_cases hlt : m < n
    · go_wp2_with fail
      refine (pick_any R p' 16 wr HR.out (by omega) (by omega) (by omega)).mono ?_
      rintro e w2 ⟨x, ⟨hx0, hx1⟩, rfl, r2, g2⟩
      have R2 := Lib.hid r2
      have N2 := Lib.hid (grown_trans HN.out g2)
      have L2 := Lib.hid (HG.out.grownR g2 hRw)
      have A2 := Lib.hid (show (xs ++ [x]).all elOk = true by rw [List.all_append, HA.out]; simp [elOk_pick hx0 hx1])
      have hsz2 : w.heap.size ≤ w2.heap.size := by have := g2.size; omega
      clear r2 g2
      go_wp2_with (at_builtin; refine wpList_append1 (.tmp 15) (.tmp 18) w.heap.size (some ad) m cap xs ⟨w2.heap.size, 0, none⟩ x rfl rfl rfl rfl (L2.out.alloc _) (by simp) (by omega) (by simp; omega) ?_; intro a3 cap3 w3 hg3 hb3; have HG3 := Lib.hid hg3; have HB3 := Lib.hid hb3; clear hg3 hb3)
      go_roundw
      case rel =>
        obtain ⟨ad3, rfl⟩ := HG3.out.addr
        exact ⟨m + 1, some ad3, cap3, by omega, by go_num, rfl, _, ad3, p' + 1, rfl, A2.out, HG3.out, (R2.out.alloc _).below HB3.out hRw, by omega, grown_below (grown_alloc N2.out _) HB3.out (Nat.le_refl _)⟩
      case measure => simp [intOf]; omega
    · obtain rfl : n = m := by omega
      by_cases h0 : 0 < n
      · go_wp2_with fail
        refine (oddZ_any R wr).mono ?_
        rintro e w' ⟨rfl, rfl⟩
        go_wp2
        go_ret
        exact ⟨xs, ad, cap, p', rfl, HA.out, HG.out, HR.out, by omega, HN.out⟩
      · obtain rfl : n = 0 := by omega
        go_wp2
        go_ret
        exact ⟨xs, ad, cap, p', rfl, HA.out, HG.out, HR.out, by omega, HN.out⟩

/-- What drawing a word leaves: a list of at most sixteen numbers in a block of its own. -/
def WdPost (R p : Nat) (w : World) (e : Ending) (w' : World) : Prop :=
  ∃ xs ad m cap p', e = .returned (.slice (some ad) m cap) ∧ m ≤ 16 ∧ Grow .i64 3 w' w.heap.size (some ad) m cap xs ∧ Rd w' R p' ∧ p' ≤ p + 64 ∧ w.grownBy w' (some R)
def WdRel (R p : Nat) (w : World) (lb cap k : Nat) (wr : World) : Prop :=
  ∃ ys p', Grow .i64 3 wr w.heap.size (some ⟨lb, 0, none⟩) 15 cap ys ∧ Rd wr R p' ∧ p' + 2 * k ≤ p + 20 ∧ w.grownBy wr (some R)
set_option maxHeartbeats 2000000 in
theorem word_any (R p : Nat) (bad : Int) (w : World) (hr : Rd w R p) (hp : p ≤ 137438953472) (hb1 : 1 ≤ bad) (hb2 : bad ≤ 1000) :
    Calls Tryd.prog 43 #[.pointer (some ⟨R, 0, none⟩), .int .i64 bad] w (WdPost R p w) := by
  have HR0 := Lib.hid hr
  have hRw := hr.lt
  clear hr
  have hE := elementsZ_any R p 11 w HR0.out (by omega) (by omega)
  have HE := Lib.hid hE
  clear hE
  go_enter Tryd.func43, Tryd.ntmps43
  go_wp2_with fail
  refine HE.out.mono ?_
  rintro e w1 ⟨xs, ad, cap, p1, rfl, hall, hg1, hr1, hp1, hn1⟩
  have hok := wok_yes hg1.len hall
  have R1 := Lib.hid hr1
  have N1 := Lib.hid hn1
  have hs1 : w.heap.size ≤ w1.heap.size := hn1.size
  have h2 := specEncodeWord_any (some ad) cap xs w1 hg1.ints (by rw [hg1.len]; omega)
  rw [hg1.len, encL_yes hok] at h2
  have H2 := Lib.hid h2
  clear hg1 hr1 hn1 hall hok h2 HE
  go_wp2_with fail
  refine H2.out.mono ?_
  rintro e w2 ⟨la, n2, cap2, rfl, hg2, hb2'⟩
  obtain ⟨lb, rfl, hlb⟩ := hg2.addr0 (grow_some hg2 (by rw [ofN_length]; omega))
  obtain rfl : n2 = 15 := by have := hg2.len; rw [ofN_length] at this; exact this.symm
  have G2 := Lib.hid (hg2.base_le hs1)
  have hRw1 : R < w1.heap.size := by omega
  have R2 := Lib.hid (R1.out.below hb2' hRw1)
  have N2 := Lib.hid (grown_below N1.out hb2' hs1)
  have hlbw : w.heap.size ≤ lb := Nat.le_trans hs1 hlb
  clear hg2 hb2' H2
  go_wp2_with fail
  refine (pick_any R p1 5 w2 R2.out (by omega) (by omega) (by omega)).mono ?_
  rintro e w3 ⟨k3, ⟨hk0, hk1⟩, rfl, r3, g3⟩
  obtain ⟨kk, rfl⟩ := Int.eq_ofNat_of_zero_le hk0
  have hkk : kk ≤ 4 := by omega
  have W3 : Hid (WdRel R p w lb cap2 kk w3) := ⟨_, _, G2.out.grownR g3 hRw, r3, by omega, grown_trans N2.out g3⟩
  clear r3 g3 hk0 hk1 R2 N2 G2 R1 N1
  go_wp2
  go_loopw [6] (fun i wr => ∃ k : Nat, k ≤ 4 ∧ i = .int .i64 k ∧ WdRel R p w lb cap2 k wr) (fun i _ => (intOf i).toNat)
  case atStart => exact ⟨kk, hkk, rfl, W3.out⟩
  case round =>
    obtain ⟨k, hk4, rfl, ys, p4, hg, hrd, hp4, hgn⟩ := hrel
    have G4 := Lib.hid hg
    have R4 := Lib.hid hrd
    have N4 := Lib.hid hgn
    clear hg hrd hgn W3
    by_cases hpos : 0 < k
    · go_wp2_with fail
      refine (pick_any R p4 15 wr R4.out (by omega) (by omega) (by omega)).mono ?_
      rintro e w5 ⟨i5, ⟨hi0, hi1⟩, rfl, r5, g5⟩
      obtain ⟨i, rfl⟩ := Int.eq_ofNat_of_zero_le hi0
      have hi15 : i < 15 := by omega
      have R5 := Lib.hid r5
      have N5 := Lib.hid (grown_trans N4.out g5)
      have G5 := Lib.hid (G4.out.grownR g5 hRw)
      clear r5 g5 hi0 hi1
      go_wp2_with fail
      refine (pick_any R (p4 + 1) 16 w5 R5.out (by omega) (by omega) (by omega)).mono ?_
      rintro e w6 ⟨v6, _, rfl, r6, g6⟩
      have N6 := Lib.hid (grown_trans N5.out g6)
      have G6 := Lib.hid (G5.out.grownR g6 hRw)
      have R6 := Lib.hid r6
      clear r6 g6 R5 N5 G5 R4 N4 G4
      obtain ⟨⟨u, hc⟩, hf⟩ := grow_cell G6.out hi15
      have B7 := Lib.hid ((Below.refl w.heap.size w6).setCell (p := ⟨lb, i, none⟩) hlbw (.int .i64 v6))
      have W7 : Hid (WdRel R p w lb cap2 (k - 1) (w6.setCell ⟨lb, i, none⟩ (.int .i64 v6))) := ⟨_, p4 + 1 + 1, G6.out.set i v6, R6.out.below B7.out hRw, by omega, grown_below N6.out B7.out (Nat.le_refl _)⟩
      clear G6 R6 N6 B7
      go_wp2
      go_roundw
      case rel => exact ⟨k - 1, by omega, by rw [show ((k - 1 : Nat) : Int) = (k : Int) - 1 by omega], W7.out⟩
      case measure => simp [intOf]; omega
    · obtain rfl : k = 0 := by omega
      go_wp2_with fail
      refine (odd_any R p4 bad wr R4.out (by omega) hb1 (by omega)).mono ?_
      rintro e w5 ⟨b5, rfl, r5, g5⟩
      have R5 := Lib.hid r5
      have N5 := Lib.hid (grown_trans N4.out g5)
      have G5 := Lib.hid (G4.out.grownR g5 hRw)
      have hs5 : w.heap.size ≤ w5.heap.size := N5.out.size
      clear r5 g5
      cases b5
      · go_wp2
        go_ret
        exact ⟨ys, _, 15, cap2, p4 + 1, rfl, by omega, G5.out, R5.out, by omega, N5.out⟩
      · have hE := elements_any R (p4 + 1) 15 1 w5 R5.out (by omega) (by omega) (.inr ⟨by omega, by omega⟩)
        have HE := Lib.hid hE
        clear hE
        go_wp2_with fail
        refine HE.out.mono ?_
        rintro e w6 ⟨zs, ad6, m6, cap6, p6, rfl, hm6, hg6, hr6, hp6, hn6⟩
        have G6 := Lib.hid (hg6.base_le hs5)
        have R6 := Lib.hid hr6
        have N6 := Lib.hid (grown_trans N5.out hn6)
        clear hg6 hr6 hn6
        go_wp2
        go_ret
        exact ⟨zs, ad6, m6, cap6, p6, rfl, by omega, G6.out, R6.out, by omega, N6.out⟩

/-- A drawn list. -/
def LstPost (w : World) (e : Ending) (w' : World) : Prop :=
  ∃ xs a c, e = .returned (.slice a xs.length c) ∧ (xs.length ≤ 20 ∧ xs.length ≤ c ∧ c ≤ maxLen) ∧ Ints .i64 w' w'.heap.size a xs ∧ Below w.heap.size w w'
set_option maxHeartbeats 1000000 in
theorem drawEncodeWord_any (a : Option Addr) (c : Nat) (ds : List Int) (w : World) (hx : Ints .u8 w w.heap.size a ds) (hw : ∀ n ∈ ds, isByte n) (hc : ds.length ≤ c) (hcm : c ≤ maxLen) :
    Calls Tryd.prog 13 #[.slice a ds.length c] w (LstPost w) := by
  have hl : ds.length ≤ maxLen := Nat.le_trans hc hcm
  go_enter Tryd.func13, Tryd.ntmps13
  go_wp2_with fail
  refine (open_any a c ds w hx hw hc hl hcm).mono ?_
  rintro e w1 ⟨rfl, r1, b1⟩
  have R1 := Lib.hid r1
  have B1 := Lib.hid b1
  have hR1 : w.heap.size < w1.heap.size := r1.lt
  clear hx hw hc hcm hl r1 b1
  have hE := elements_any w.heap.size 0 11 6 w1 R1.out (by omega) (by omega) (.inr ⟨by omega, by omega⟩)
  have HE := Lib.hid hE
  clear hE
  go_wp2_with fail
  refine HE.out.mono ?_
  rintro e w2 ⟨xs, ad, m, cap, p2, rfl, hm, hg, _, _, g2⟩
  obtain rfl : xs.length = m := hg.len
  have HP : Hid (LstPost w (.returned (.slice (some ad) xs.length cap)) w2) := ⟨xs, some ad, cap, rfl, ⟨by omega, hg.room⟩, hg.ints, below_R B1.out g2⟩
  clear hg g2
  go_wp2
  go_ret
  exact HP.out
set_option maxHeartbeats 1000000 in
theorem drawWordSyndromes_any (a : Option Addr) (c : Nat) (ds : List Int) (w : World) (hx : Ints .u8 w w.heap.size a ds) (hw : ∀ n ∈ ds, isByte n) (hc : ds.length ≤ c) (hcm : c ≤ maxLen) :
    Calls Tryd.prog 20 #[.slice a ds.length c] w (LstPost w) := by
  have hl : ds.length ≤ maxLen := Nat.le_trans hc hcm
  go_enter Tryd.func20, Tryd.ntmps20
  go_wp2_with fail
  refine (open_any a c ds w hx hw hc hl hcm).mono ?_
  rintro e w1 ⟨rfl, r1, b1⟩
  have R1 := Lib.hid r1
  have B1 := Lib.hid b1
  clear hx hw hc hcm hl r1 b1
  go_wp2_with fail
  refine (word_any w.heap.size 0 6 w1 R1.out (by omega) (by omega) (by omega)).mono ?_
  rintro e w2 ⟨xs, ad, m, cap, p2, rfl, hm, hg, _, _, g2⟩
  obtain rfl : xs.length = m := hg.len
  have HP : Hid (LstPost w (.returned (.slice (some ad) xs.length cap)) w2) := ⟨xs, some ad, cap, rfl, ⟨by omega, hg.room⟩, hg.ints, below_R B1.out g2⟩
  clear hg g2
  go_wp2
  go_ret
  exact HP.out
set_option maxHeartbeats 1000000 in
theorem drawDecodeWord_any (a : Option Addr) (c : Nat) (ds : List Int) (w : World) (hx : Ints .u8 w w.heap.size a ds) (hw : ∀ n ∈ ds, isByte n) (hc : ds.length ≤ c) (hcm : c ≤ maxLen) :
    Calls Tryd.prog 25 #[.slice a ds.length c] w (LstPost w) := by
  have hl : ds.length ≤ maxLen := Nat.le_trans hc hcm
  go_enter Tryd.func25, Tryd.ntmps25
  go_wp2_with fail
  refine (open_any a c ds w hx hw hc hl hcm).mono ?_
  rintro e w1 ⟨rfl, r1, b1⟩
  have R1 := Lib.hid r1
  have B1 := Lib.hid b1
  clear hx hw hc hcm hl r1 b1
  go_wp2_with fail
  refine (word_any w.heap.size 0 9 w1 R1.out (by omega) (by omega) (by omega)).mono ?_
  rintro e w2 ⟨xs, ad, m, cap, p2, rfl, hm, hg, _, _, g2⟩
  obtain rfl : xs.length = m := hg.len
  have HP : Hid (LstPost w (.returned (.slice (some ad) xs.length cap)) w2) := ⟨xs, some ad, cap, rfl, ⟨by omega, hg.room⟩, hg.ints, below_R B1.out g2⟩
  clear hg g2
  go_wp2
  go_ret
  exact HP.out
/-- Two drawn lists. -/
def Lst2Post (w : World) (e : Ending) (w' : World) : Prop :=
  ∃ xs a c ys a' c', e = .returned (.tuple #[.slice a xs.length c, .slice a' ys.length c']) ∧ (xs.length ≤ 20 ∧ ys.length ≤ 20) ∧ (xs.length ≤ c ∧ c ≤ maxLen ∧ ys.length ≤ c' ∧ c' ≤ maxLen) ∧ Ints .i64 w' w'.heap.size a xs ∧ Ints .i64 w' w'.heap.size a' ys ∧ Below w.heap.size w w'
theorem Ints.pastR {k : IntKind} {w w' : World} {B R : Nat} {ad : Addr} {xs : List Int} (h : Ints k w B (some ad) xs) (hg : w.grownBy w' (some R)) (hne : ad.block ≠ R) (hB : B ≤ w.heap.size) : Ints k w' B (some ad) xs := fun hn => by
  obtain ⟨b, off, e, hb, hc⟩ := h hn
  injection e with e
  subst e
  refine ⟨b, off, rfl, hb, fun i hi => (World.cell?_of_block (hg.block b (by omega) (fun e' => ?_))).trans (hc i hi)⟩
  injection e' with e'
  exact hne e'
/-- The state of the loop that changes the second list: the first one lies in a block before it. -/
def PairRel (R : Nat) (w1 w2 : World) (xs : List Int) (ad : Addr) (bb cap2 m k : Nat) (wr : World) : Prop :=
  ∃ zs p, Ints .i64 wr w2.heap.size (some ad) xs ∧ Grow .i64 3 wr w2.heap.size (some ⟨bb, 0, none⟩) m cap2 zs ∧ Rd wr R p ∧ p + 2 * k ≤ 200 ∧ w1.grownBy wr (some R) ∧ w2.heap.size ≤ wr.heap.size
set_option maxHeartbeats 2000000 in
theorem drawWordDistance_any (a : Option Addr) (c : Nat) (ds : List Int) (w : World) (hx : Ints .u8 w w.heap.size a ds) (hw : ∀ n ∈ ds, isByte n) (hc : ds.length ≤ c) (hcm : c ≤ maxLen) :
    Calls Tryd.prog 22 #[.slice a ds.length c] w (Lst2Post w) := by
  have hl : ds.length ≤ maxLen := Nat.le_trans hc hcm
  go_enter Tryd.func22, Tryd.ntmps22
  go_wp2_with fail
  refine (open_any a c ds w hx hw hc hl hcm).mono ?_
  rintro e w1 ⟨rfl, r1, b1⟩
  have R1 := Lib.hid r1
  have B1 := Lib.hid b1
  have hR1 : w.heap.size < w1.heap.size := r1.lt
  clear hx hw hc hcm hl r1 b1
  go_wp2_with fail
  refine (word_any w.heap.size 0 9 w1 R1.out (by omega) (by omega) (by omega)).mono ?_
  rintro e w2 ⟨xs, ad, m, cap, p2, rfl, hm, hg, r2, hp2, g2⟩
  obtain rfl : xs.length = m := hg.len
  obtain ⟨ab, e2, hab⟩ := hg.addr0 (by simp)
  injection e2 with e2
  subst e2
  have hroom := hg.room
  have I2 := Lib.hid hg.ints
  have R2 := Lib.hid r2
  have N2 := Lib.hid g2
  have hs2 : w1.heap.size ≤ w2.heap.size := g2.size
  have hR2 : w.heap.size < w2.heap.size := by omega
  have hne : ab ≠ w.heap.size := by omega
  have IA := Lib.hid (fun o => I2.out.below (below_alloc w2 o))
  have BA := Lib.hid (fun o => below_alloc w2 o)
  clear hg r2 g2 R1
  go_wp2_with (at_builtin; refine wpList_appendA (.tmp 12) (.tmp 13) w2.heap.size (some ⟨w2.heap.size, 0, none⟩) (some ⟨ab, 0, none⟩) 0 0 xs.length cap w2.heap.size [] xs rfl rfl rfl rfl (Grow.lit0 _ _ _ _ (Nat.le_refl _)) (IA.out _) rfl (by omega) (by simp) ?_; intro a4 cap4 w4 hg4 hb4 hn4; rw [Nat.zero_add, List.nil_append] at hg4; have hnn : a4 ≠ none := hn4.elim id (fun h => by cases h); have hB4 := (BA.out _).trans hb4; have G4 := Lib.hid hg4; have I4 := Lib.hid (I2.out.below hB4); have R4 := Lib.hid (R2.out.below hB4 hR2); have N4 := Lib.hid (grown_below N2.out hB4 hs2); have hs4 : w2.heap.size ≤ w4.heap.size := hB4.size; clear hg4 hb4 hn4 hB4)
  obtain ⟨bb, rfl, hbb⟩ := G4.out.addr0 hnn
  refine (pick_any w.heap.size p2 6 w4 R4.out (by omega) (by omega) (by omega)).mono ?_
  rintro e w5 ⟨k5, ⟨hk0, hk1⟩, rfl, r5, g5⟩
  obtain ⟨kk, rfl⟩ := Int.eq_ofNat_of_zero_le hk0
  have hkk : kk ≤ 5 := by omega
  have W5 : Hid (PairRel w.heap.size w1 w2 xs ⟨ab, 0, none⟩ bb cap4 xs.length kk w5) := ⟨_, _, I4.out.pastR g5 hne hs4, G4.out.grownR g5 hR2, r5, by omega, grown_trans N4.out g5, Nat.le_trans hs4 g5.size⟩
  clear r5 g5 hk0 hk1 R2 N2 I2 IA BA G4 I4 R4 N4 hs4 hnn
  go_wp2
  go_loopw [7] (fun i wr => ∃ k : Nat, k ≤ 5 ∧ i = .int .i64 k ∧ PairRel w.heap.size w1 w2 xs ⟨ab, 0, none⟩ bb cap4 xs.length k wr) (fun i _ => (intOf i).toNat)
  case atStart => exact ⟨kk, hkk, rfl, W5.out⟩
  case round =>
    obtain ⟨k, hk5, rfl, zs, p6, hi6, hg6, hr6, hp6, hn6, hs6⟩ := hrel
    have I6 := Lib.hid hi6
    have G6 := Lib.hid hg6
    have R6 := Lib.hid hr6
    have N6 := Lib.hid hn6
    clear hi6 hg6 hr6 hn6 W5
    by_cases hgo : 0 < k ∧ 0 < xs.length
    · obtain ⟨hpos, hxl⟩ := hgo
      go_wp2_with fail
      refine (pick_any w.heap.size p6 (xs.length : Int) wr R6.out (by omega) (by omega) (by omega)).mono ?_
      rintro e w7 ⟨i7, ⟨hi0, hi1⟩, rfl, r7, g7⟩
      obtain ⟨i, rfl⟩ := Int.eq_ofNat_of_zero_le hi0
      have hil : i < xs.length := by omega
      have I7 := Lib.hid (I6.out.pastR g7 hne hs6)
      have G7 := Lib.hid (G6.out.grownR g7 hR2)
      have N7 := Lib.hid (grown_trans N6.out g7)
      have R7 := Lib.hid r7
      have hs7 : w2.heap.size ≤ w7.heap.size := Nat.le_trans hs6 g7.size
      clear r7 g7 hi0 hi1 I6 G6 R6 N6
      go_wp2_with fail
      refine (pick_any w.heap.size (p6 + 1) 16 w7 R7.out (by omega) (by omega) (by omega)).mono ?_
      rintro e w8 ⟨v8, _, rfl, r8, g8⟩
      have I8 := Lib.hid (I7.out.pastR g8 hne hs7)
      have G8 := Lib.hid (G7.out.grownR g8 hR2)
      have N8 := Lib.hid (grown_trans N7.out g8)
      have R8 := Lib.hid r8
      have hs8 : w2.heap.size ≤ w8.heap.size := Nat.le_trans hs7 g8.size
      clear r8 g8 I7 G7 R7 N7
      obtain ⟨⟨u, hcc⟩, hff⟩ := grow_cell G8.out hil
      have B9 := Lib.hid ((Below.refl w2.heap.size w8).setCell (p := ⟨bb, i, none⟩) hbb (.int .i64 v8))
      have W9 : Hid (PairRel w.heap.size w1 w2 xs ⟨ab, 0, none⟩ bb cap4 xs.length (k - 1) (w8.setCell ⟨bb, i, none⟩ (.int .i64 v8))) :=
        ⟨_, p6 + 1 + 1, I8.out.below B9.out, G8.out.set i v8, R8.out.below B9.out hR2, by omega, grown_below N8.out B9.out hs2, Nat.le_trans hs8 B9.out.size⟩
      clear I8 G8 R8 N8 B9
      go_wp2
      go_roundw
      case rel => exact ⟨k - 1, by omega, by rw [show ((k - 1 : Nat) : Int) = (k : Int) - 1 by omega], W9.out⟩
      case measure => simp [intOf]; omega
    · by_cases hk0 : 0 < k
      · have hx0 : ¬ 0 < xs.length := fun h => hgo ⟨hk0, h⟩
        clear hgo
        obtain rfl : xs = [] := List.eq_nil_of_length_eq_zero (by omega)
        clear hx0
        go_wp2_with fail
        refine (odd_any w.heap.size p6 6 wr R6.out (by omega) (by omega) (by omega)).mono ?_
        rintro e w7 ⟨b7, rfl, r7, g7⟩
        have I7 := Lib.hid (I6.out.pastR g7 hne hs6)
        have G7 := Lib.hid (G6.out.grownR g7 hR2)
        have N7 := Lib.hid (grown_trans N6.out g7)
        have R7 := Lib.hid r7
        have hs7 : w2.heap.size ≤ w7.heap.size := Nat.le_trans hs6 g7.size
        clear r7 g7 I6 G6 R6 N6
        cases b7
        · have hz := G7.out.len
          have hi := G7.out.ints
          have hr2 := G7.out.room
          have HP : Hid (Lst2Post w (.returned (.tuple #[.slice (some ⟨ab, 0, none⟩) ([] : List Int).length cap, .slice (some ⟨bb, 0, none⟩) ([] : List Int).length cap4])) w7) :=
            ⟨[], _, cap, zs, some ⟨bb, 0, none⟩, cap4, by rw [hz], ⟨by omega, by omega⟩, ⟨hroom.1, hroom.2, by omega, hr2.2⟩, I7.out.more hs7, hi, below_R B1.out N7.out⟩
          clear hz hi hr2
          go_wp2
          go_ret2
          exact HP.out
        · have hW := word_any w.heap.size (p6 + 1) 4 w7 R7.out (by omega) (by omega) (by omega)
          have HW := Lib.hid hW
          clear hW
          go_wp2_with fail
          refine HW.out.mono ?_
          rintro e w8 ⟨ys, ad8, m8, cap8, p8, rfl, hm8, hg8, _, _, g8⟩
          obtain rfl : ys.length = m8 := hg8.len
          have HP : Hid (Lst2Post w (.returned (.tuple #[.slice (some ⟨ab, 0, none⟩) ([] : List Int).length cap, .slice (some ad8) ys.length cap8])) w8) :=
            ⟨[], _, cap, ys, some ad8, cap8, rfl, ⟨by omega, by omega⟩, ⟨hroom.1, hroom.2, hg8.room.1, hg8.room.2⟩, (I7.out.pastR g8 hne hs7).more (Nat.le_trans hs7 g8.size), hg8.ints, below_R B1.out (grown_trans N7.out g8)⟩
          clear hg8 g8
          go_wp2
          go_ret2
          exact HP.out
      · clear hgo
        go_wp2_with fail
        refine (odd_any w.heap.size p6 6 wr R6.out (by omega) (by omega) (by omega)).mono ?_
        rintro e w7 ⟨b7, rfl, r7, g7⟩
        have I7 := Lib.hid (I6.out.pastR g7 hne hs6)
        have G7 := Lib.hid (G6.out.grownR g7 hR2)
        have N7 := Lib.hid (grown_trans N6.out g7)
        have R7 := Lib.hid r7
        have hs7 : w2.heap.size ≤ w7.heap.size := Nat.le_trans hs6 g7.size
        clear r7 g7 I6 G6 R6 N6
        cases b7
        · have hz := G7.out.len
          have hi := G7.out.ints
          have hr2 := G7.out.room
          have HP : Hid (Lst2Post w (.returned (.tuple #[.slice (some ⟨ab, 0, none⟩) xs.length cap, .slice (some ⟨bb, 0, none⟩) xs.length cap4])) w7) :=
            ⟨xs, _, cap, zs, some ⟨bb, 0, none⟩, cap4, by rw [hz], ⟨by omega, by omega⟩, ⟨hroom.1, hroom.2, by omega, hr2.2⟩, I7.out.more hs7, hi, below_R B1.out N7.out⟩
          clear hz hi hr2
          go_wp2
          go_ret2
          exact HP.out
        · have hW := word_any w.heap.size (p6 + 1) 4 w7 R7.out (by omega) (by omega) (by omega)
          have HW := Lib.hid hW
          clear hW
          go_wp2_with fail
          refine HW.out.mono ?_
          rintro e w8 ⟨ys, ad8, m8, cap8, p8, rfl, hm8, hg8, _, _, g8⟩
          obtain rfl : ys.length = m8 := hg8.len
          have HP : Hid (Lst2Post w (.returned (.tuple #[.slice (some ⟨ab, 0, none⟩) xs.length cap, .slice (some ad8) ys.length cap8])) w8) :=
            ⟨xs, _, cap, ys, some ad8, cap8, rfl, ⟨by omega, by omega⟩, ⟨hroom.1, hroom.2, hg8.room.1, hg8.room.2⟩, (I7.out.pastR g8 hne hs7).more (Nat.le_trans hs7 g8.size), hg8.ints, below_R B1.out (grown_trans N7.out g8)⟩
          clear hg8 g8
          go_wp2
          go_ret2
          exact HP.out
end Go.Proofs.YtkeeijkjemcbcaaDoor
