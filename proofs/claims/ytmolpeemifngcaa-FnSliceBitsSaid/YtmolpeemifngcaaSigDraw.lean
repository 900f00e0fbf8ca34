/-
  How the laws of modulation draw levels and signals. No condition.
-/
import Derived.Test.YtmolpeemifngcaaSig2
import Derived.Test.YtmolpeemifngcaaDraws
namespace Go.Proofs.Ytmolpeemifngcaa
open Go.RowKit

theorem cell_grown2 {w w' : World} {R i : Nat} {cs cs' : Array Value} {t t' : TypeId} (hg : ((w.alloc (.cells cs t)).alloc (.cells cs' t')).grownBy w' (some R)) (hR : R < w.heap.size) :
    w'.cell? ⟨w.heap.size, i, none⟩ = cs[i]? ∧ w'.cell? ⟨w.heap.size + 1, i, none⟩ = cs'[i]? := by
  constructor
  · rw [World.cell?_of_block (hg.block w.heap.size (by simp; omega) (fun e => by injection e; omega)), cell_of_row _ _ _ _ _ _ (heap_prev2 w _ _)]
  · rw [World.cell?_of_block (hg.block (w.heap.size + 1) (by simp) (fun e => by injection e; omega)), cell_of_row _ _ _ _ _ _ (heap_last2 w _ _)]
/-- What drawing a level leaves. -/
def LevPost (R p : Nat) (w : World) (e : Ending) (w' : World) : Prop :=
  ∃ x : Int, e = .returned (.int .i64 x) ∧ Rd w' R (p + 3) ∧ w.grownBy w' (some R)
set_option maxHeartbeats 1000000 in
theorem level_any (R p : Nat) (w : World) (hr : Rd w R p) (hp : p ≤ 549755813888) :
    Calls Try.prog 66 #[.pointer (some ⟨R, 0, none⟩)] w (LevPost R p w) := by
  have HR0 := Lib.hid hr
  have hRw := hr.lt
  clear hr
  go_enter Try.func66, Try.ntmps66
  go_wp2_with fail
  refine (pick_any R p 9 w HR0.out (by omega) (by omega) (by omega)).mono ?_
  rintro e w1 ⟨v1, ⟨hv1, hv1'⟩, rfl, r1, g1⟩
  have R1 := Lib.hid r1
  have G1 := Lib.hid g1
  clear r1 g1
  go_wp2_with fail
  refine (pick_any R (p + 1) 200 w1 R1.out (by omega) (by omega) (by omega)).mono ?_
  rintro e w2 ⟨v2, ⟨hv2, hv2'⟩, rfl, r2, g2⟩
  have R2 := Lib.hid r2
  have G2 := Lib.hid (grown_trans G1.out g2)
  have hs2 : R < w2.heap.size := r2.lt
  clear r2 g2
  go_wp2_with fail
  refine (pick_any R (p + 1 + 1) 8 _ ((R2.out.alloc _).alloc _) (by omega) (by omega) (by omega)).mono ?_
  rintro e w3 ⟨v3, ⟨hv3, hv3'⟩, rfl, r3, g3⟩
  obtain ⟨k, rfl⟩ := Int.eq_ofNat_of_zero_le hv3
  have hk : k < 8 := by omega
  have hcell : ∃ j : Nat, j < 4 ∧ w3.cell? ⟨w2.heap.size + 1, k, none⟩ = some (.int .i64 (j : Int)) := by
    rw [(cell_grown2 g3 hs2).2]
    match k, hk with
    | 0, _ | 1, _ | 2, _ | 3, _ => exact ⟨0, by decide, rfl⟩
    | 4, _ | 5, _ => exact ⟨1, by decide, rfl⟩
    | 6, _ => exact ⟨2, by decide, rfl⟩
    | 7, _ => exact ⟨3, by decide, rfl⟩
    | (m + 8), h => exact absurd h (by omega)
  obtain ⟨j, hj, hc⟩ := hcell
  have hcell2 : ∃ x : Int, w3.cell? ⟨w2.heap.size, j, none⟩ = some (.int .i64 x) := by
    rw [(cell_grown2 g3 hs2).1]
    match j, hj with
    | 0, _ | 1, _ | 2, _ | 3, _ => exact ⟨_, rfl⟩
    | (m + 4), h => exact absurd h (by omega)
  obtain ⟨x, hc2⟩ := hcell2
  have R3 := Lib.hid r3
  have G3 := Lib.hid (grown_trans (grown_alloc (grown_alloc G2.out _) _) g3)
  clear r3 g3 hv3 hv3'
  go_wp2
  go_ret
  exact ⟨x, rfl, R3.out, G3.out⟩

theorem GrowS.addr {t : TypeId} {w : World} {base n cap : Nat} {a : Option Addr} {ps : List Smp} (h : GrowS t w base a (n + 1) cap ps) : ∃ ad, a = some ad := by
  obtain ⟨b, f, e, _⟩ := h.row (by omega)
  exact ⟨_, e⟩
theorem GrowS.addr0 {t : TypeId} {w : World} {base n cap : Nat} {ad : Addr} {ps : List Smp} (h : GrowS t w base (some ad) n cap ps) : ∃ g, ad = ⟨g, 0, none⟩ ∧ base ≤ g := by
  rcases h.2 with ⟨e, _⟩ | ⟨g, c, cur, e, hg, _⟩
  · injection e with e; cases e
  · injection e with e; injection e with e; exact ⟨g, e, hg⟩
/-- A drawn signal. -/
def SigDrawn (R p : Nat) (w : World) (e : Ending) (w' : World) : Prop :=
  ∃ ps b cap p', e = .returned (.slice (some ⟨b, 0, none⟩) ps.length cap) ∧ ps.length ≤ 300 ∧ (ps.length ≤ cap ∧ cap ≤ maxLen) ∧ Sigs w' w'.heap.size (some ⟨b, 0, none⟩) ps ∧ b ≠ R ∧ Rd w' R p' ∧ p' ≤ p + 200 ∧ w.grownBy w' (some R)
theorem sigDrawn_grow {R p m cap p' : Nat} {w w' : World} {ad : Addr} {ps : List Smp} {base : Nat} (hg : GrowS 36 w' base (some ad) m cap ps) (hm : m ≤ 300) (hr : Rd w' R p') (hp : p' ≤ p + 200) (hw : w.grownBy w' (some R)) (hR : R < base) :
    SigDrawn R p w (.returned (.slice (some ad) m cap)) w' := by
  have hl := hg.len
  have hr2 := hg.room
  obtain ⟨g, rfl, hg0⟩ := hg.addr0
  exact ⟨ps, g, cap, p', by rw [hl], by omega, ⟨by omega, hr2.2⟩, hg.sigs, by omega, hr, hp, hw⟩
theorem makeSig257 (w : World) : (Instr.makeSlice 26 (.int .i64 257) (.int .i64 257)).run Try.prog w = .ok (.slice (some ⟨w.heap.size, 0, none⟩) 257 257) (w.alloc (.cells (madeCells #[.int .i64 0, .int .i64 0] 514) 36)) := makeSig 257 (by omega) w
def zero257 : List Smp := List.replicate 257 (0, 0)
theorem zero257_length : zero257.length = 257 := List.length_replicate
theorem sp_repl (n i : Nat) : sp (List.replicate n (0, 0)) i = (0, 0) := by by_cases h : i < n <;> simp [sp, h]
theorem zero257_at (i : Nat) : sI zero257 i = 0 ∧ sQ zero257 i = 0 := by
  unfold sI sQ zero257
  rw [sp_repl]
  exact ⟨rfl, rfl⟩
theorem sigs257 (w : World) : Sigs (w.alloc (.cells (madeCells #[.int .i64 0, .int .i64 0] 514) 36)) (w.heap.size + 1) (some ⟨w.heap.size, 0, none⟩) zero257 := fun _ => by
  have hr := madeSig_row w 514
  refine ⟨w.heap.size, 0, rfl, by omega, fun i hi => ?_⟩
  rw [zero257_length] at hi
  rw [Nat.zero_add, hr.cell (by omega), hr.cell (by omega), (zero257_at i).1, (zero257_at i).2]
  exact ⟨rfl, rfl⟩
/-- The state of the loop that draws a signal: m samples are drawn, q are to be drawn. -/
def SigRel (R p : Nat) (w : World) (q m : Nat) (v : Option Addr) (cap : Nat) (wr : World) : Prop :=
  ∃ ps ad p', v = some ad ∧ q + m ≤ 9 ∧ GrowS 36 wr w.heap.size v m cap ps ∧ Rd wr R p' ∧ p' ≤ p + 1 + 6 * m ∧ w.grownBy wr (some R)
set_option maxHeartbeats 2000000 in
theorem signal_any (R p : Nat) (n : Int) (w : World) (hr : Rd w R p) (hp : p ≤ 274877906944) (hn1 : 1 ≤ n) (hn2 : n ≤ 1000000) :
    Calls Try.prog 57 #[.pointer (some ⟨R, 0, none⟩), .int .i64 9, .int .i64 n] w (SigDrawn R p w) := by
  have HR0 := Lib.hid hr
  have hRw := hr.lt
  clear hr
  go_enter Try.func57, Try.ntmps57
  go_wp2_with fail
  refine (pick_any R p 10 _ (HR0.out.alloc _) (by omega) (by omega) (by omega)).mono ?_
  rintro e w1 ⟨v1, ⟨hv1, hv1'⟩, rfl, r1, g1⟩
  have R1 := Lib.hid r1
  have G1 := Lib.hid (grown_trans (grown_alloc (World.grownBy.refl w (some R)) _) g1)
  have L1 := Lib.hid ((GrowS.lit0 36 w w.heap.size (Nat.le_refl _)).grownR g1 hRw)
  obtain ⟨q0, rfl⟩ := Int.eq_ofNat_of_zero_le hv1
  clear r1 g1
  go_wp2
  go_loopw [7, 8] (fun s i wr => ∃ (q m : Nat) (v : Option Addr) (cap : Nat), i = .int .i64 q ∧ s = .slice v m cap ∧ SigRel R p w q m v cap wr) (fun _ i _ => (intOf i).toNat)
  case atStart => exact ⟨q0, 0, _, _, rfl, rfl, [], _, p + 1, rfl, by omega, L1.out, R1.out, by omega, G1.out⟩
  case round =>
    obtain ⟨q, m, v, cap, rfl, rfl, ps, ad, p', rfl, hqm, hgr, hrd, hp', hgn⟩ := hrel
    have HG := Lib.hid hgr
    have HR := Lib.hid hrd
    have HN := Lib.hid hgn
    have hsz : w.heap.size ≤ wr.heap.size := hgn.size
    clear hgr hrd hgn R1 G1 L1
    by_cases hq : 0 < q
    · have hqi : 0 < (q : Int) := by omega
      go_wp2_with fail
      refine (level_any R p' wr HR.out (by omega)).mono ?_
      rintro e w2 ⟨x, rfl, r2, g2⟩
      have R2 := Lib.hid r2
      have N2 := Lib.hid (grown_trans HN.out g2)
      have L2 := Lib.hid (HG.out.grownR g2 hRw)
      clear r2 g2
      go_wp2_with fail
      refine (level_any R (p' + 3) w2 R2.out (by omega)).mono ?_
      rintro e w3 ⟨y, rfl, r3, g3⟩
      have R3 := Lib.hid r3
      have N3 := Lib.hid (grown_trans N2.out g3)
      have L3 := Lib.hid (L2.out.grownR g3 hRw)
      have hsz3 : w.heap.size ≤ w3.heap.size := N3.out.size
      clear r3 g3
      go_wp2_with (at_builtin; refine wpList_appendSig1 (.tmp 18) (.tmp 24) w.heap.size (some ad) m cap ps w3.heap.size x y rfl rfl rfl rfl (L3.out.alloc _) (heap_alloc_last _ _) (by omega) (by simp; omega) ?_; intro a4 cap4 w4 hg4 hb4 _; have HG4 := Lib.hid hg4; have HB4 := Lib.hid hb4; clear hg4 hb4)
      go_roundw
      case rel =>
        obtain ⟨ad4, rfl⟩ := HG4.out.addr
        exact ⟨q - 1, m + 1, some ad4, cap4, by congr 1; omega, rfl, _, ad4, p' + 3 + 3, rfl, by omega, HG4.out, (R3.out.alloc _).below HB4.out hRw, by omega, grown_below (grown_alloc N3.out _) HB4.out (Nat.le_refl _)⟩
      case measure => simp [intOf]; omega
    · obtain rfl : q = 0 := by omega
      go_wp2_with fail
      refine (odd_any R p' n wr HR.out (by omega) hn1 (by omega)).mono ?_
      rintro e w2 ⟨b, rfl, r2, g2⟩
      have R2 := Lib.hid r2
      have N2 := Lib.hid (grown_trans HN.out g2)
      have L2 := Lib.hid (HG.out.grownR g2 hRw)
      clear r2 g2
      cases b
      · go_wp2
        go_ret
        exact sigDrawn_grow L2.out (by omega) R2.out (by omega) N2.out hRw
      · go_wp2_with fail
        refine (pick_any R (p' + 1) 2 w2 R2.out (by omega) (by omega) (by omega)).mono ?_
        rintro e w3 ⟨v3, ⟨hv3, hv3'⟩, rfl, r3, g3⟩
        have R3 := Lib.hid r3
        have N3 := Lib.hid (grown_trans N2.out g3)
        have L3 := Lib.hid (L2.out.grownR g3 hRw)
        have hsz3 : w.heap.size ≤ w3.heap.size := N3.out.size
        clear r3 g3
        by_cases hz : v3 = 0
        · subst hz
          go_wp2_with (at_builtin; refine wpList_appendSig1 (.tmp 32) (.tmp 34) w.heap.size (some ad) m cap ps w3.heap.size 100001 0 rfl rfl rfl rfl (L3.out.alloc _) (heap_alloc_last _ _) (by omega) (by simp; omega) ?_; intro a4 cap4 w4 hg4 hb4 _; have HG4 := Lib.hid hg4; have HB4 := Lib.hid hb4; clear hg4 hb4)
          go_ret
          obtain ⟨ad4, rfl⟩ := HG4.out.addr
          exact sigDrawn_grow HG4.out (by omega) ((R3.out.alloc _).below HB4.out hRw) (by omega) (grown_below (grown_alloc N3.out _) HB4.out (Nat.le_refl _)) hRw
        · have hz' : (v3 == 0) = false := by simpa using hz
          have hmk := fun W => makeSig257 W
          clear hz
          go_wp2
          go_ret
          exact ⟨zero257, w3.heap.size, 257, p' + 1 + 1, by rw [zero257_length]; rfl, by rw [zero257_length]; omega, ⟨by rw [zero257_length]; exact Nat.le_refl _, by decide⟩, by simpa using sigs257 w3, by omega, R3.out.alloc _, by omega, grown_alloc N3.out _⟩
/-- What a law's draw of a signal leaves; of a signal and a number. -/
def SigOut (w : World) (e : Ending) (w' : World) : Prop :=
  ∃ ps b cap, e = .returned (.slice (some ⟨b, 0, none⟩) ps.length cap) ∧ ps.length ≤ 300 ∧ (ps.length ≤ cap ∧ cap ≤ maxLen) ∧ Sigs w' w'.heap.size (some ⟨b, 0, none⟩) ps ∧ Below w.heap.size w w'
def SigNumOut (w : World) (e : Ending) (w' : World) : Prop :=
  ∃ ps b cap q, e = .returned (.tuple #[.slice (some ⟨b, 0, none⟩) ps.length cap, .int .i64 q]) ∧ (-1 ≤ q ∧ q ≤ 5) ∧ ps.length ≤ 300 ∧ (ps.length ≤ cap ∧ cap ≤ maxLen) ∧ Sigs w' w'.heap.size (some ⟨b, 0, none⟩) ps ∧ Below w.heap.size w w'
theorem Sigs.grown {w w' : World} {B R g : Nat} {ps : List Smp} (h : Sigs w B (some ⟨g, 0, none⟩) ps) (hg : w.grownBy w' (some R)) (hB : B ≤ w.heap.size) (hR : g ≠ R) : Sigs w' B (some ⟨g, 0, none⟩) ps := fun hn => by
  obtain ⟨b, off, e, hb, hc⟩ := h hn
  injection e with e
  injection e with e1 e2
  subst e1 e2
  have hk : ∀ j, w'.cell? ⟨g, j, none⟩ = w.cell? ⟨g, j, none⟩ := fun j => World.cell?_of_block (hg.block g (by omega) (fun e2 => hR (by injection e2)))
  exact ⟨g, _, rfl, hb, fun i hi => ⟨(hk _).trans (hc i hi).1, (hk _).trans (hc i hi).2⟩⟩
set_option maxHeartbeats 400000 in
theorem drawSignalValid_any (a : Option Addr) (c : Nat) (ds : List Int) (w : World) (hx : Ints .u8 w w.heap.size a ds) (hw : ∀ n ∈ ds, isByte n) (hc : ds.length ≤ c) (hcm : c ≤ maxLen) :
    Calls Try.prog 23 #[.slice a ds.length c] w (SigOut w) := by
  have hl : ds.length ≤ maxLen := Nat.le_trans hc hcm
  go_enter Try.func23, Try.ntmps23
  go_wp2_with fail
  refine (open_any a c ds w hx hw hc hl hcm).mono ?_
  rintro e w1 ⟨rfl, r1, b1⟩
  have R1 := Lib.hid r1
  have B1 := Lib.hid b1
  clear hx hw hc hcm hl r1 b1
  go_wp2_with fail
  refine (signal_any w.heap.size 0 2 w1 R1.out (by omega) (by omega) (by omega)).mono ?_
  rintro e w2 ⟨ps, b, cap, p', rfl, l2, c2, i2, _, _, _, g2⟩
  have HP : Hid (SigOut w (.returned (.slice (some ⟨b, 0, none⟩) ps.length cap)) w2) := ⟨ps, b, cap, rfl, l2, c2, i2, below_R B1.out g2⟩
  clear l2 c2 i2 g2
  go_wp2
  go_ret
  exact HP.out
set_option maxHeartbeats 400000 in
theorem drawSignalPower_any (a : Option Addr) (c : Nat) (ds : List Int) (w : World) (hx : Ints .u8 w w.heap.size a ds) (hw : ∀ n ∈ ds, isByte n) (hc : ds.length ≤ c) (hcm : c ≤ maxLen) :
    Calls Try.prog 33 #[.slice a ds.length c] w (SigOut w) := by
  have hl : ds.length ≤ maxLen := Nat.le_trans hc hcm
  go_enter Try.func33, Try.ntmps33
  go_wp2_with fail
  refine (open_any a c ds w hx hw hc hl hcm).mono ?_
  rintro e w1 ⟨rfl, r1, b1⟩
  have R1 := Lib.hid r1
  have B1 := Lib.hid b1
  clear hx hw hc hcm hl r1 b1
  go_wp2_with fail
  refine (signal_any w.heap.size 0 9 w1 R1.out (by omega) (by omega) (by omega)).mono ?_
  rintro e w2 ⟨ps, b, cap, p', rfl, l2, c2, i2, _, _, _, g2⟩
  have HP : Hid (SigOut w (.returned (.slice (some ⟨b, 0, none⟩) ps.length cap)) w2) := ⟨ps, b, cap, rfl, l2, c2, i2, below_R B1.out g2⟩
  clear l2 c2 i2 g2
  go_wp2
  go_ret
  exact HP.out
set_option maxHeartbeats 1000000 in
theorem drawTurnSamples_any (a : Option Addr) (c : Nat) (ds : List Int) (w : World) (hx : Ints .u8 w w.heap.size a ds) (hw : ∀ n ∈ ds, isByte n) (hc : ds.length ≤ c) (hcm : c ≤ maxLen) :
    Calls Try.prog 30 #[.slice a ds.length c] w (SigNumOut w) := by
  have hl : ds.length ≤ maxLen := Nat.le_trans hc hcm
  go_enter Try.func30, Try.ntmps30
  go_wp2_with fail
  refine (open_any a c ds w hx hw hc hl hcm).mono ?_
  rintro e w1 ⟨rfl, r1, b1⟩
  have R1 := Lib.hid r1
  have B1 := Lib.hid b1
  clear hx hw hc hcm hl r1 b1
  go_wp2_with fail
  refine (signal_any w.heap.size 0 12 w1 R1.out (by omega) (by omega) (by omega)).mono ?_
  rintro e w2 ⟨ps, b, cap, p', rfl, l2, c2, i2, n2, r2, hp2, g2⟩
  have R2 := Lib.hid r2
  have B2 := Lib.hid (below_R B1.out g2)
  have S2 := Lib.hid i2
  have N2 := Lib.hid n2
  have L2 := Lib.hid l2
  have C2 := Lib.hid c2
  clear l2 c2 i2 r2 g2 n2
  go_wp2_with fail
  refine (pick_any w.heap.size p' 6 w2 R2.out (by omega) (by omega) (by omega)).mono ?_
  rintro e w3 ⟨v3, ⟨hv3, hv3'⟩, rfl, r3, g3⟩
  have R3 := Lib.hid r3
  have B3 := Lib.hid (below_R B2.out g3)
  have S3 := Lib.hid (S2.out.grown g3 (Nat.le_refl _) N2.out)
  have s23 := g3.size
  clear r3 g3
  go_wp2_with fail
  refine (pick_any w.heap.size (p' + 1) 9 w3 R3.out (by omega) (by omega) (by omega)).mono ?_
  rintro e w4 ⟨v4, ⟨hv4, hv4'⟩, rfl, r4, g4⟩
  have B4 := Lib.hid (below_R B3.out g4)
  have S4 := Lib.hid ((S3.out.grown g4 s23 N2.out).more (Nat.le_trans s23 g4.size))
  obtain ⟨m, rfl⟩ := Int.eq_ofNat_of_zero_le hv4
  have HQ : Hid (-1 ≤ v3 - (m : Int) / 8 ∧ v3 - (m : Int) / 8 ≤ 5) := ⟨by omega, by omega⟩
  clear r4 g4
  go_wp2
  go_ret2
  exact ⟨ps, b, cap, v3 - (m : Int) / 8, rfl, HQ.out, L2.out, C2.out, S4.out, B4.out⟩
end Go.Proofs.Ytmolpeemifngcaa
