/-
  How the laws of chapter 10 draw sequences. No condition.
-/
import Derived.Test.YtckjlonlkckhdaaSeqMath
import Derived.Test.YtckjlonlkckhdaaDraws
namespace Go.Proofs.Ytckjlonlkckhdaa
open Go.RowKit

/-- A number that a drawn sequence may hold. -/
def sml (x : Int) : Prop := -1001 ≤ x ∧ x ≤ 1001
theorem sml_snoc {xs : List Int} {x : Int} (h : ∀ y ∈ xs, sml y) (hx : sml x) : ∀ y ∈ xs ++ [x], sml y := fun y hy => by
  rcases List.mem_append.1 hy with hy | hy
  · exact h y hy
  · simp at hy; subst hy; exact hx
theorem sml_at {xs : List Int} (h : ∀ y ∈ xs, sml y) (i : Nat) : -1001 ≤ el xs i ∧ el xs i ≤ 1001 := by
  by_cases hi : i < xs.length
  · exact h _ (el_mem hi)
  · rw [el_out (by omega)]; omega
/-- A drawn sequence: in memory of its own, its numbers small; only the reader was written besides. -/
def SeqDrawn (R p : Nat) (w : World) (e : Ending) (w' : World) : Prop :=
  ∃ xs b n cap p', e = .returned (.slice (some ⟨b, 0, none⟩) n cap) ∧ (n ≤ 21 ∨ n = 65) ∧ (∀ x ∈ xs, sml x) ∧ Grow .i64 3 w' w.heap.size (some ⟨b, 0, none⟩) n cap xs ∧ Rd w' R p' ∧ p' ≤ p + 100 ∧ w.grownBy w' (some R)
/-- The state of the loop that draws a sequence: m numbers are drawn, q are to be drawn. -/
def SeqRel (R p most : Nat) (w : World) (q m : Nat) (v : Option Addr) (cap : Nat) (wr : World) : Prop :=
  ∃ xs b p', v = some ⟨b, 0, none⟩ ∧ q + m ≤ most ∧ (∀ x ∈ xs, sml x) ∧ Grow .i64 3 wr w.heap.size v m cap xs ∧ Rd wr R p' ∧ p' ≤ p + 1 + 3 * m ∧ w.grownBy wr (some R)
theorem makeSeq65 (w : World) : (Instr.makeSlice 23 (.int .i64 65) (.int .i64 65)).run Try.prog w = .ok (.slice (some ⟨w.heap.size, 0, none⟩) 65 65) (w.alloc (.cells (madeCells #[.int .i64 0] 65) 3)) :=
  run_make_row' (P := Try.prog) 23 3 (.int .i64 0) 8 Try.underlying23 Try.infoInt rfl .i64 .i64 65 (by omega) (by omega) w
theorem growSeq_made (w : World) (base n : Nat) (hn : n ≤ 1000000) (hb : base ≤ w.heap.size) : Grow .i64 3 (w.alloc (.cells (madeCells #[.int .i64 0] n) 3)) base (some ⟨w.heap.size, 0, none⟩) n n (List.replicate n 0) := by
  refine ⟨by simp, .inr ⟨w.heap.size, n, _, rfl, hb, heap_alloc_last _ _, Nat.le_refl _, by unfold maxLen; omega, by rw [size_madeCells, Nat.mul_one], ?_⟩⟩
  rw [Nat.mul_one, List.take_of_length_le (by simp [size_madeCells])]
  apply List.ext_getElem
  · simp [size_madeCells]
  · intro i h1 h2
    simp [madeCells, Nat.mod_one]
theorem Grow.addrS {k : IntKind} {t : TypeId} {w : World} {base n cap : Nat} {a : Option Addr} {xs : List Int} (h : Grow k t w base a (n + 1) cap xs) : ∃ g, a = some ⟨g, 0, none⟩ := by
  obtain ⟨b, f, e, _⟩ := h.row (by omega)
  exact ⟨b, e⟩
theorem cell_grown2s {w w' : World} {R i : Nat} {cs cs' : Array Value} {t t' : TypeId} (hg : ((w.alloc (.cells cs t)).alloc (.cells cs' t')).grownBy w' (some R)) (hR : R < w.heap.size) :
    w'.cell? ⟨w.heap.size, i, none⟩ = cs[i]? ∧ w'.cell? ⟨w.heap.size + 1, i, none⟩ = cs'[i]? := by
  constructor
  · rw [World.cell?_of_block (hg.block w.heap.size (by simp; omega) (fun e => by injection e; omega)), cell_of_row _ _ _ _ _ _ (heap_prev2 w _ _)]
  · rw [World.cell?_of_block (hg.block (w.heap.size + 1) (by simp) (fun e => by injection e; omega)), cell_of_row _ _ _ _ _ _ (heap_last2 w _ _)]
/-- What asking the reader for a chance of one in n leaves, n also 0. -/
def OddP (R p : Nat) (w : World) (e : Ending) (w' : World) : Prop :=
  ∃ b p', e = .returned (.bool b) ∧ Rd w' R p' ∧ p' ≤ p + 1 ∧ w.grownBy w' (some R)
theorem odd_or (R p : Nat) (n : Int) (w : World) (hr : Rd w R p) (hp : p ≤ 1099511627776) (hn1 : 0 ≤ n) (hn2 : n ≤ 1099511627776) :
    Calls Try.prog 46 #[.pointer (some ⟨R, 0, none⟩), .int .i64 n] w (OddP R p w) := by
  by_cases h : n = 0
  · subst h
    refine (oddZ_any R w).mono ?_
    rintro e w' ⟨rfl, rfl⟩
    exact ⟨false, p, rfl, hr, by omega, World.grownBy.refl _ _⟩
  · refine (odd_any R p n w hr hp (by omega) hn2).mono ?_
    rintro e w' ⟨b, rfl, h1, h2⟩
    exact ⟨b, p + 1, rfl, h1, Nat.le_refl _, h2⟩
set_option maxHeartbeats 2000000 in
theorem sequence_any (R p : Nat) (most n : Int) (w : World) (hr : Rd w R p) (hp : p ≤ 274877906944) (hm1 : 0 ≤ most) (hm2 : most ≤ 20) (hn1 : 0 ≤ n) (hn2 : n ≤ 1000000) :
    Calls Try.prog 32 #[.pointer (some ⟨R, 0, none⟩), .int .i64 most, .int .i64 n] w (SeqDrawn R p w) := by
  have HR0 := Lib.hid hr
  have hRw := hr.lt
  clear hr
  go_enter Try.func32, Try.ntmps32
  go_wp2_with fail
  refine (pick_any R p (most + 1) _ (HR0.out.alloc _) (by omega) (by omega) (by omega)).mono ?_
  rintro e w1 ⟨v1, ⟨hv1, hv1'⟩, rfl, r1, g1⟩
  have R1 := Lib.hid r1
  have G1 := Lib.hid (grown_trans (grown_alloc (World.grownBy.refl w (some R)) _) g1)
  have L1 := Lib.hid ((Grow.lit0 .i64 3 w w.heap.size (Nat.le_refl _)).grownR g1 hRw)
  obtain ⟨q0, rfl⟩ := Int.eq_ofNat_of_zero_le hv1
  have hq0 : q0 ≤ 20 := by omega
  clear r1 g1
  go_wp2
  go_loopw [7, 8] (fun s i wr => ∃ (q m : Nat) (v : Option Addr) (cap : Nat), i = .int .i64 q ∧ s = .slice v m cap ∧ SeqRel R p 20 w q m v cap wr) (fun _ i _ => (intOf i).toNat)
  case atStart => exact ⟨q0, 0, _, _, rfl, rfl, [], _, p + 1, rfl, by omega, by simp, L1.out, R1.out, by omega, G1.out⟩
  case round =>
    obtain ⟨q, m, v, cap, rfl, rfl, xs, ad, p', rfl, hqm, hsm, hgr, hrd, hp', hgn⟩ := hrel
    have HG := Lib.hid hgr
    have HR := Lib.hid hrd
    have HN := Lib.hid hgn
    have HS := Lib.hid hsm
    have hsz : w.heap.size ≤ wr.heap.size := hgn.size
    clear hgr hrd hgn R1 G1 L1 hsm
    by_cases hq : 0 < q
    · have hqi : 0 < (q : Int) := by omega
      go_wp2_with fail
      refine (pick_any R p' 9 wr HR.out (by omega) (by omega) (by omega)).mono ?_
      rintro e w2 ⟨x1, ⟨hx1, hx1'⟩, rfl, r2, g2⟩
      have R2 := Lib.hid r2
      have N2 := Lib.hid (grown_trans HN.out g2)
      have L2 := Lib.hid (HG.out.grownR g2 hRw)
      clear r2 g2
      go_wp2_with fail
      refine (pick_any R (p' + 1) 200 w2 R2.out (by omega) (by omega) (by omega)).mono ?_
      rintro e w3 ⟨x2, ⟨hx2, hx2'⟩, rfl, r3, g3⟩
      have R3 := Lib.hid r3
      have N3 := Lib.hid (grown_trans N2.out g3)
      have L3 := Lib.hid (L2.out.grownR g3 hRw)
      have hs3 : R < w3.heap.size := r3.lt
      clear r3 g3
      go_wp2_with fail
      refine (pick_any R (p' + 1 + 1) 8 _ ((R3.out.alloc _).alloc _) (by omega) (by omega) (by omega)).mono ?_
      rintro e w4 ⟨v3, ⟨hv3, hv3'⟩, rfl, r4, g4⟩
      obtain ⟨k, rfl⟩ := Int.eq_ofNat_of_zero_le hv3
      have hk : k < 8 := by omega
      have hcell : ∃ j : Nat, j < 4 ∧ w4.cell? ⟨w3.heap.size + 1, k, none⟩ = some (.int .i64 (j : Int)) := by
        rw [(cell_grown2s g4 hs3).2]
        match k, hk with
        | 0, _ | 1, _ | 2, _ | 3, _ => exact ⟨0, by decide, rfl⟩
        | 4, _ | 5, _ => exact ⟨1, by decide, rfl⟩
        | 6, _ => exact ⟨2, by decide, rfl⟩
        | 7, _ => exact ⟨3, by decide, rfl⟩
        | (m + 8), h => exact absurd h (by omega)
      obtain ⟨j, hj, hc⟩ := hcell
      have hcell2 : ∃ x : Int, w4.cell? ⟨w3.heap.size, j, none⟩ = some (.int .i64 x) ∧ sml x := by
        rw [(cell_grown2s g4 hs3).1]
        match j, hj with
        | 0, _ => exact ⟨_, rfl, by unfold sml; omega⟩
        | 1, _ => exact ⟨_, rfl, by unfold sml; omega⟩
        | 2, _ => exact ⟨_, rfl, by unfold sml; omega⟩
        | 3, _ => exact ⟨_, rfl, by unfold sml; omega⟩
        | (m + 4), h => exact absurd h (by omega)
      obtain ⟨x, hc2, hsx⟩ := hcell2
      have R4 := Lib.hid r4
      have N4 := Lib.hid (grown_trans (grown_alloc (grown_alloc N3.out _) _) g4)
      have L4 := Lib.hid (((L3.out.alloc _).alloc _).grownR g4 hRw)
      have HX := Lib.hid (sml_snoc HS.out hsx)
      have hsz4 : w.heap.size ≤ w4.heap.size := N4.out.size
      clear r4 g4 hv3 hv3' hsx
      go_wp2_with (at_builtin; refine wpList_append1 (.tmp 18) (.tmp 33) w.heap.size (some ⟨ad, 0, none⟩) m cap xs ⟨w4.heap.size, 0, none⟩ x rfl rfl rfl rfl (L4.out.alloc _) (by simp) (by omega) (by simp; omega) ?_; intro a5 cap5 w5 hg5 hb5; have HG5 := Lib.hid hg5; have HB5 := Lib.hid hb5; clear hg5 hb5)
      go_roundw
      case rel =>
        obtain ⟨ad5, rfl⟩ := HG5.out.addrS
        exact ⟨q - 1, m + 1, _, cap5, by congr 1; omega, rfl, _, ad5, p' + 1 + 1 + 1, rfl, by omega, HX.out, HG5.out, (R4.out.alloc _).below HB5.out hRw, by omega, grown_below (grown_alloc N4.out _) HB5.out (Nat.le_refl _)⟩
      case measure => simp [intOf]; omega
    · obtain rfl : q = 0 := by omega
      go_wp2_with fail
      refine (odd_or R p' n wr HR.out (by omega) hn1 (by omega)).mono ?_
      rintro e w2 ⟨b, p2, rfl, r2, hp2, g2⟩
      have R2 := Lib.hid r2
      have N2 := Lib.hid (grown_trans HN.out g2)
      have L2 := Lib.hid (HG.out.grownR g2 hRw)
      clear r2 g2
      cases b
      · have HP : Hid (SeqDrawn R p w (.returned (.slice (some ⟨ad, 0, none⟩) m cap)) w2) := ⟨xs, ad, m, cap, p2, rfl, by omega, HS.out, L2.out, R2.out, by omega, N2.out⟩
        go_wp2
        go_ret
        exact HP.out
      · go_wp2_with fail
        refine (pick_any R p2 2 w2 R2.out (by omega) (by omega) (by omega)).mono ?_
        rintro e w3 ⟨v3, ⟨hv3, hv3'⟩, rfl, r3, g3⟩
        have R3 := Lib.hid r3
        have N3 := Lib.hid (grown_trans N2.out g3)
        have L3 := Lib.hid (L2.out.grownR g3 hRw)
        have hsz3 : w.heap.size ≤ w3.heap.size := N3.out.size
        clear r3 g3
        by_cases hz : v3 = 0
        · subst hz
          have HX := Lib.hid (sml_snoc HS.out (show sml 1001 by unfold sml; omega))
          go_wp2_with (at_builtin; refine wpList_append1 (.tmp 41) (.tmp 42) w.heap.size (some ⟨ad, 0, none⟩) m cap xs ⟨w3.heap.size, 0, none⟩ 1001 rfl rfl rfl rfl (L3.out.alloc _) (by simp) (by omega) (by simp; omega) ?_; intro a5 cap5 w5 hg5 hb5; have HG5 := Lib.hid hg5; have HB5 := Lib.hid hb5; clear hg5 hb5)
          go_ret
          obtain ⟨ad5, rfl⟩ := HG5.out.addrS
          exact ⟨_, ad5, m + 1, cap5, p2 + 1, rfl, by omega, HX.out, HG5.out, (R3.out.alloc _).below HB5.out hRw, by omega, grown_below (grown_alloc N3.out _) HB5.out (Nat.le_refl _)⟩
        · have hz' : (v3 == 0) = false := by simpa using hz
          have hmk := fun W => makeSeq65 W
          have HX := Lib.hid (show ∀ y ∈ List.replicate 65 (0 : Int), sml y from fun y hy => by rw [List.eq_of_mem_replicate hy]; unfold sml; omega)
          clear hz
          go_wp2
          go_ret
          exact ⟨_, w3.heap.size, 65, 65, p2 + 1, rfl, by omega, HX.out, growSeq_made w3 w.heap.size 65 (by omega) hsz3, R3.out.alloc _, by omega, grown_alloc N3.out _⟩
end Go.Proofs.Ytckjlonlkckhdaa
