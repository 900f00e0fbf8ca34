/-
  How the laws of the block code draw their lists: what comes out, and what it leaves. Condition: the code has at most 2^20 bytes.
-/
import Derived.Test.YtmhngakfjlkchaaDoorNibSpec2
import Derived.Test.YtmhngakfjlkchaaDoorDraws
namespace Go.Proofs.YtmhngakfjlkchaaDoor
open Go.RowKit

/-- A drawn list of about n numbers; only the reader was written besides. -/
def FixPost (R p n : Nat) (w : World) (e : Ending) (w' : World) : Prop :=
  ∃ xs ad m cap p', e = .returned (.slice (some ad) m cap) ∧ m ≤ n + 1 ∧ (∀ x ∈ xs, small x) ∧ Grow .i64 3 w' w.heap.size (some ad) m cap xs ∧ Rd w' R p' ∧ p' ≤ p + n + 8 ∧ w.grownBy w' (some R)
/-- The state of the loop that draws: m are drawn. -/
def FixRel (R p : Nat) (w : World) (m : Nat) (v : Option Addr) (cap : Nat) (wr : World) : Prop :=
  ∃ xs ad p', v = some ad ∧ (∀ x ∈ xs, small x) ∧ Grow .i64 3 wr w.heap.size v m cap xs ∧ Rd wr R p' ∧ p' ≤ p + m ∧ w.grownBy wr (some R)
set_option maxHeartbeats 2000000 in
theorem fixed_any (R p n : Nat) (bad : Int) (w : World) (hr : Rd w R p) (hp : p ≤ 549755813888) (hn : n ≤ 2000) (hbad : bad = 0 ∨ bad = 6) :
    Calls Tryd.prog 15 #[.pointer (some ⟨R, 0, none⟩), .int .i64 n, .int .i64 bad] w (FixPost R p n w) := by
  have HR0 := Lib.hid hr
  have hRw := hr.lt
  have HBad := Lib.hid hbad
  clear hr hbad
  go_enter Tryd.func15, Tryd.ntmps15
  go_wp2
  go_loopw [7, 8] (fun s i wr => ∃ (m : Nat) (v : Option Addr) (cap : Nat), m ≤ n ∧ i = .int .i64 m ∧ s = .slice v m cap ∧ FixRel R p w m v cap wr) (fun _ i _ => n - (intOf i).toNat)
  case atStart => exact ⟨0, _, _, Nat.zero_le _, rfl, rfl, [], _, p, rfl, by simp, Grow.lit0 _ _ _ _ (Nat.le_refl _), HR0.out.alloc _, by omega, grown_alloc (World.grownBy.refl w (some R)) _⟩
  case round =>
    obtain ⟨m, v, cap, hm, rfl, rfl, xs, ad, p', rfl, hsm, hgr, hrd, hp', hgn⟩ := hrel
    have HG := Lib.hid hgr
    have HS := Lib.hid hsm
    have HR := Lib.hid hrd
    have HN := Lib.hid hgn
    have hsz : w.heap.size ≤ wr.heap.size := hgn.size
    clear hgr hsm hrd hgn
    by_cases hlt : m < n
    · go_wp2_with fail
      refine (pick_any R p' 2 wr HR.out (by omega) (by omega) (by omega)).mono ?_
      rintro e w2 ⟨x, ⟨hx0, hx1⟩, rfl, r2, g2⟩
      have R2 := Lib.hid r2
      have N2 := Lib.hid (grown_trans HN.out g2)
      have L2 := Lib.hid (HG.out.grownR g2 hRw)
      have hsz2 : w.heap.size ≤ w2.heap.size := by have := g2.size; omega
      clear r2 g2
      go_wp2_with (at_builtin; refine wpList_append1 (.tmp 15) (.tmp 18) w.heap.size (some ad) m cap xs ⟨w2.heap.size, 0, none⟩ x rfl rfl rfl rfl (L2.out.alloc _) (by simp) (by omega) (by simp; omega) ?_; intro a3 cap3 w3 hg3 hb3; have HG3 := Lib.hid hg3; have HB3 := Lib.hid hb3; clear hg3 hb3)
      go_roundw
      case rel =>
        obtain ⟨ad3, rfl⟩ := HG3.out.addr
        exact ⟨m + 1, some ad3, cap3, by omega, by go_num, rfl, _, ad3, p' + 1, rfl, small_snoc HS.out ⟨by omega, by omega⟩, HG3.out, (R2.out.alloc _).below HB3.out hRw, by omega, grown_below (grown_alloc N2.out _) HB3.out (Nat.le_refl _)⟩
      case measure => simp [intOf]; omega
    · obtain rfl : n = m := by omega
      rcases HBad.out with rfl | rfl
      · go_wp2_with fail
        refine (oddZ_any R wr).mono ?_
        rintro e w' ⟨rfl, rfl⟩
        go_wp2
        go_ret
        exact ⟨xs, ad, n, cap, p', rfl, by omega, HS.out, HG.out, HR.out, by omega, HN.out⟩
      · go_wp2_with fail
        refine (odd_any R p' 6 wr HR.out (by omega) (by omega) (by omega)).mono ?_
        rintro e w4 ⟨b4, rfl, r4, g4⟩
        have R4 := Lib.hid r4
        have N4 := Lib.hid (grown_trans HN.out g4)
        have L4 := Lib.hid (HG.out.grownR g4 hRw)
        have hsz4 : w.heap.size ≤ w4.heap.size := by have := g4.size; omega
        clear r4 g4
        cases b4
        · go_wp2
          go_ret
          exact ⟨xs, ad, n, cap, p' + 1, rfl, by omega, HS.out, L4.out, R4.out, by omega, N4.out⟩
        · by_cases h0 : 0 < n
          · go_wp2_with fail
            refine (pick_any R (p' + 1) 2 w4 R4.out (by omega) (by omega) (by omega)).mono ?_
            rintro e w5 ⟨v5, ⟨hv5, hv5'⟩, rfl, r5, g5⟩
            have R5 := Lib.hid r5
            have N5 := Lib.hid (grown_trans N4.out g5)
            have L5 := Lib.hid (L4.out.grownR g5 hRw)
            have hsz5 : w.heap.size ≤ w5.heap.size := by have := g5.size; omega
            clear r5 g5
            by_cases hz : v5 = 0
            · subst hz
              obtain ⟨b, hb1, hb2⟩ := L5.out.addr0 (by simp)
              obtain rfl : ad = ⟨b, 0, none⟩ := by injection hb1
              obtain ⟨⟨u, hc⟩, hf⟩ := grow_cell L5.out h0
              have L6 := Lib.hid (L5.out.set 0 2)
              have B6 := Lib.hid ((Below.refl w.heap.size w5).setCell (p := ⟨b, 0, none⟩) hb2 (.int .i64 2))
              clear hb1
              go_wp2
              go_ret
              exact ⟨_, _, n, cap, p' + 1 + 1, rfl, by omega, small_set HS.out ⟨by omega, by omega⟩, L6.out, R5.out.below B6.out hRw, by omega, grown_below N5.out B6.out (Nat.le_refl _)⟩
            · obtain rfl : v5 = 1 := by omega
              go_wp2_with (at_builtin; refine wpList_append1 (.tmp 33) (.tmp 34) w.heap.size (some ad) n cap xs ⟨w5.heap.size, 0, none⟩ 0 rfl rfl rfl rfl (L5.out.alloc _) (by simp) (by omega) (by simp; omega) ?_; intro a3 cap3 w6 hg3 hb3; have HG3 := Lib.hid hg3; have HB3 := Lib.hid hb3; clear hg3 hb3)
              go_ret
              obtain ⟨ad3, rfl⟩ := HG3.out.addr
              exact ⟨_, ad3, n + 1, cap3, p' + 1 + 1, rfl, by omega, small_snoc HS.out ⟨by omega, by omega⟩, HG3.out, (R5.out.alloc _).below HB3.out hRw, by omega, grown_below (grown_alloc N5.out _) HB3.out (Nat.le_refl _)⟩
          · go_wp2_with (at_builtin; refine wpList_append1 (.tmp 33) (.tmp 34) w.heap.size (some ad) n cap xs ⟨w4.heap.size, 0, none⟩ 0 rfl rfl rfl rfl (L4.out.alloc _) (by simp) (by omega) (by simp; omega) ?_; intro a3 cap3 w6 hg3 hb3; have HG3 := Lib.hid hg3; have HB3 := Lib.hid hb3; clear hg3 hb3)
            go_ret
            obtain ⟨ad3, rfl⟩ := HG3.out.addr
            exact ⟨_, ad3, n + 1, cap3, p' + 1, rfl, by omega, small_snoc HS.out ⟨by omega, by omega⟩, HG3.out, (R4.out.alloc _).below HB3.out hRw, by omega, grown_below (grown_alloc N4.out _) HB3.out (Nat.le_refl _)⟩

/-- A drawn list. -/
def DrawnList (w : World) (e : Ending) (w' : World) : Prop :=
  ∃ xs a c, e = .returned (.slice a xs.length c) ∧ (xs.length ≤ 1100 ∧ xs.length ≤ c ∧ c ≤ maxLen) ∧ Ints .i64 w' w'.heap.size a xs ∧ Below w.heap.size w w'
theorem below_Rd {w w1 w2 : World} {R : Nat} (h : Below w.heap.size w w1) (hg : w1.grownBy w2 (some R)) (hR : w.heap.size ≤ R) : Below w.heap.size w w2 := h.grown hg h.size (fun k e => by injection e; omega)
theorem drawn_fix {w w1 w2 : World} {R p n : Nat} {e : Ending} (hb : Below w.heap.size w w1) (hR : w.heap.size ≤ R) (hn : n ≤ 1000) (h : FixPost R p n w1 e w2) : DrawnList w e w2 := by
  obtain ⟨xs, ad, m, cap, p', rfl, hm, _, hg, _, _, hgn⟩ := h
  have hl := hg.len
  subst hl
  exact ⟨xs, some ad, cap, rfl, ⟨by omega, hg.room⟩, hg.ints, below_Rd hb hgn hR⟩
end Go.Proofs.YtmhngakfjlkchaaDoor
