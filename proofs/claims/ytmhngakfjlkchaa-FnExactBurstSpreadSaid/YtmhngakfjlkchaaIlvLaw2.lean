/-
  The law of BurstSpread and the law of its exactness, walked: they return true for every code and for every four numbers, and write into nothing that was there. No condition.
-/
import Derived.Test.YtmhngakfjlkchaaIlv6
import Derived.Test.YtmhngakfjlkchaaDraws
namespace Go.Proofs.Ytmhngakfjlkchaa
open Go.RowKit

theorem results_four8 {fn : Func} {t u v x : Tmp} (h : fn.results = #[.tmp t, .tmp u, .tmp v, .tmp x]) (tmps : Array Value) (P : Program) (w : World) :
    (results fn tmps).run P w = .ok (.tuple #[tmps.getD t undef, tmps.getD u undef, tmps.getD v undef, tmps.getD x undef]) w := by
  simp [results, h]
/-- Four drawn numbers. -/
def FourDraw (w : World) (e : Ending) (w' : World) : Prop :=
  ∃ r c a n : Int, e = .returned (.tuple #[.int .i64 r, .int .i64 c, .int .i64 a, .int .i64 n]) ∧ Below w.heap.size w w'
theorem below_Rd8 {w w1 w2 : World} {R : Nat} (h : Below w.heap.size w w1) (hg : w1.grownBy w2 (some R)) (hR : w.heap.size ≤ R) : Below w.heap.size w w2 := h.grown hg h.size (fun k e => by injection e; omega)

set_option maxHeartbeats 2000000 in
theorem drawBurstSpread_any (a : Option Addr) (c : Nat) (ds : List Int) (w : World) (hx : Ints .u8 w w.heap.size a ds) (hw : ∀ n ∈ ds, isByte n) (hc : ds.length ≤ c) (hcm : c ≤ maxLen) :
    Calls Try.prog 18 #[.slice a ds.length c] w (FourDraw w) := by
  have hl : ds.length ≤ maxLen := Nat.le_trans hc hcm
  go_enter Try.func18, Try.ntmps18
  go_wp2_with fail
  refine (open_any a c ds w hx hw hc hl hcm).mono ?_
  rintro e w1 ⟨rfl, r1, b1⟩
  have R1 := Lib.hid r1
  have B1 := Lib.hid b1
  clear hx hw hc hcm hl r1 b1
  go_wp2_with fail
  refine (pick_any w.heap.size 0 8 w1 R1.out (by omega) (by omega) (by omega)).mono ?_
  rintro e w2 ⟨v1, ⟨hv1, hv1'⟩, rfl, r2, g2⟩
  have R2 := Lib.hid r2
  have B2 := Lib.hid (below_Rd8 B1.out g2 (Nat.le_refl _))
  clear r2 g2 R1 B1
  go_wp2_with fail
  refine (pick_any w.heap.size (0 + 1) 8 w2 R2.out (by omega) (by omega) (by omega)).mono ?_
  rintro e w3 ⟨v2, ⟨hv2, hv2'⟩, rfl, r3, g3⟩
  have R3 := Lib.hid r3
  have B3 := Lib.hid (below_Rd8 B2.out g3 (Nat.le_refl _))
  clear r3 g3 R2 B2
  obtain ⟨P, hP⟩ : ∃ P, P = (1 + v1) * (1 + v2) := ⟨_, rfl⟩
  have hPb : 1 ≤ P ∧ P ≤ 64 := by
    have : v2 = 0 ∨ v2 = 1 ∨ v2 = 2 ∨ v2 = 3 ∨ v2 = 4 ∨ v2 = 5 ∨ v2 = 6 ∨ v2 = 7 := by omega
    rcases this with rfl | rfl | rfl | rfl | rfl | rfl | rfl | rfl <;> omega
  obtain ⟨hP0, hP35⟩ := hPb
  have hmul : IntKind.i64.wrap ((1 + v1) * (1 + v2)) = P := by rw [← hP, IntKind.wrap_i64]; omega
  have hmul' : wrap64 ((1 + v1) * (1 + v2)) = P := by rw [← hP]; unfold wrap64; omega
  clear hP
  go_wp2_with fail
  refine (pick_any w.heap.size (0 + 1 + 1) (P + 1) w3 R3.out (by omega) (by omega) (by omega)).mono ?_
  rintro e w4 ⟨v4, ⟨hv4, hv4'⟩, rfl, r4, g4⟩
  have R4 := Lib.hid r4
  have B4 := Lib.hid (below_Rd8 B3.out g4 (Nat.le_refl _))
  clear r4 g4 R3 B3
  go_wp2_with fail
  refine (pick_any w.heap.size (0 + 1 + 1 + 1) (P - v4 + 1) w4 R4.out (by omega) (by omega) (by omega)).mono ?_
  rintro e w5 ⟨v5, ⟨hv5, hv5'⟩, rfl, r5, g5⟩
  have R5 := Lib.hid r5
  have B5 := Lib.hid (below_Rd8 B4.out g5 (Nat.le_refl _))
  clear r5 g5 R4 B4
  go_wp2_with fail
  refine (pick_any w.heap.size (0 + 1 + 1 + 1 + 1) 12 w5 R5.out (by omega) (by omega) (by omega)).mono ?_
  rintro e w6 ⟨v6, ⟨hv6, hv6'⟩, rfl, r6, g6⟩
  have R6 := Lib.hid r6
  have B6 := Lib.hid (below_Rd8 B5.out g6 (Nat.le_refl _))
  clear r6 g6 R5 B5
  go_wp2_with fail
  refine (odd_any w.heap.size (0 + 1 + 1 + 1 + 1 + 1) 12 w6 R6.out (by omega) (by omega) (by omega)).mono ?_
  rintro e w7 ⟨b7, rfl, r7, g7⟩
  have R7 := Lib.hid r7
  have B7 := Lib.hid (below_Rd8 B6.out g7 (Nat.le_refl _))
  clear r7 g7 R6 B6 hmul hmul'
  cases b7
  · go_wp2
    (try simp only [Exit.inBlock, Exit.then])
    refine bodyPost_ret (results_four8 rfl _ _ _) rfl ?_
    exact ⟨_, _, _, _, rfl, B7.out⟩
  · go_wp2_with fail
    refine (pick_any w.heap.size (0 + 1 + 1 + 1 + 1 + 1 + 1) 2 _ (R7.out.alloc _) (by omega) (by omega) (by omega)).mono ?_
    rintro e w8 ⟨v8, ⟨hv8, hv8'⟩, rfl, r8, g8⟩
    have hk : v8 = 0 ∨ v8 = 1 := by omega
    have hRw : w.heap.size < w7.heap.size := R7.out.lt
    have c0 : w8.cell? ⟨w7.heap.size, 0, none⟩ = some (.int .i64 0) := cell_grown g8 rfl hRw
    have c1 : w8.cell? ⟨w7.heap.size, 1, none⟩ = some (.int .i64 33) := cell_grown g8 rfl hRw
    have B8 := Lib.hid (below_Rd8 (B7.out.alloc B7.out.size _) g8 (Nat.le_refl _))
    clear r8 g8 hv8 hv8'
    rcases hk with rfl | rfl
    all_goals
      go_wp2
      (try simp only [Exit.inBlock, Exit.then])
      refine bodyPost_ret (results_four8 rfl _ _ _) rfl ?_
      exact ⟨_, _, _, _, rfl, B8.out⟩
set_option maxHeartbeats 2000000 in
theorem walkBurstSpread (a : Option Addr) (c : Nat) (ds : List Int) (w : World) (hx : Ints .u8 w w.heap.size a ds) (hw : ∀ n ∈ ds, (Lit.int .u8 n).wf = true) (hc : ds.length ≤ c) (hcm : c ≤ maxLen) :
    Calls Try.prog 5 #[.slice a ds.length c] w fun e w' => e = .returned (.bool true) ∧ Below w.heap.size w w' := by
  have hb := isByte_of_wf hw
  clear hw
  by_cases hl : ds.length ≤ 1048576
  · go_enter Try.func5, Try.ntmps5
    go_wp2_with fail
    refine (drawBurstSpread_any a c ds w hx hb hc hcm).mono ?_
    rintro e w1 ⟨r, c', a', n, rfl, b1⟩
    have B1 := Lib.hid b1
    clear hx hb hc hcm b1
    cases hk : brOk r c' a' n
    · have h2 := spread8_any r c' a' n w1
      rw [brOr_no hk] at h2
      have h3 := fun W => specSpread8_any r c' a' n W
      rw [brOr_no hk] at h3
      have H2 := Lib.hid h2
      have H3 := Lib.hid h3
      clear h2 h3 hk
      go_wp2_with fail
      refine H2.out.mono ?_
      rintro e w2 ⟨rfl, b2⟩
      have B2 := Lib.hid (Below.next B1.out (Nat.le_refl _) b2)
      clear b2 H2 B1
      go_wp2_with fail
      refine (H3.out w2).mono ?_
      rintro e w3 ⟨rfl, b3⟩
      have B3 := Lib.hid (Below.next B2.out (Nat.le_refl _) b3)
      clear b3 H3 B2
      go_wp2_with fail
      refine (alive_any w3).mono ?_
      rintro e w4 ⟨rfl, b4⟩
      have B4 := Lib.hid (Below.next B3.out (Nat.le_refl _) b4)
      clear b4
      go_wp2
      go_ret
      exact ⟨rfl, B4.out⟩
    · obtain ⟨R, C, A, M, rfl, rfl, rfl, rfl, ⟨hR1, hR2⟩, ⟨hC1, hC2⟩, hle⟩ := brOk_parts hk
      have hN : R * C ≤ 32 * 32 := Nat.mul_le_mul hR2 hC2
      obtain ⟨u, hu⟩ : ∃ u, u = up8 R M := ⟨_, rfl⟩
      have hM : M ≤ 1024 := by omega
      have hu1 : u ≤ M := by rw [hu]; exact up8_bound hR1 M
      have h2 := spread8_any R C A M w1
      rw [brOr_yes hk, ← hu] at h2
      have h3 := fun W => specSpread8_any R C A M W
      rw [brOr_yes hk, ← hu] at h3
      have H2 := Lib.hid h2
      have H3 := Lib.hid h3
      obtain ⟨s, hs⟩ : ∃ s, s = M + R - 1 := ⟨_, rfl⟩
      have hsu : s / R = u := by rw [hs, hu]; rfl
      have hsi : (M : Int) + (R : Int) - 1 = (s : Int) := by omega
      have hz0 : ¬ R = 0 := by omega
      have r3 : IntKind.i64.wrap ((s : Int).tdiv (R : Int)) = (u : Int) := by
        rw [Int.tdiv_eq_ediv_of_nonneg (Int.natCast_nonneg _), show (s : Int) / (R : Int) = ((s / R : Nat) : Int) from rfl, hsu]; exact wrap8 (by omega)
      have r3' : wrap64 ((s : Int) / (R : Int)) = (u : Int) := by
        rw [show (s : Int) / (R : Int) = ((s / R : Nat) : Int) from rfl, hsu]; exact wrap8' (by omega)
      have z1 : ((u : Int) != (u : Int)) = false := by simp
      have z2 : ((u : Int) == (u : Int)) = true := by simp
      clear h2 h3 hk hN hle hu hs hsu
      go_wp2_with fail
      refine H2.out.mono ?_
      rintro e w2 ⟨rfl, b2⟩
      have B2 := Lib.hid (Below.next B1.out (Nat.le_refl _) b2)
      clear b2 H2 B1
      go_wp2_with fail
      refine (H3.out w2).mono ?_
      rintro e w3 ⟨rfl, b3⟩
      have B3 := Lib.hid (Below.next B2.out (Nat.le_refl _) b3)
      clear b3 H3 B2
      go_wp2
      go_ret
      exact ⟨rfl, B3.out⟩
  · go_enter Try.func5, Try.ntmps5
    go_wp2
    go_ret
    exact ⟨rfl, Below.refl _ _⟩
set_option maxHeartbeats 1000000 in
theorem walkExactBurstSpread (r c a n : Int) (w : World) :
    Calls Try.prog 8 #[.int .i64 r, .int .i64 c, .int .i64 a, .int .i64 n] w fun e w' => e = .returned (.bool true) ∧ Below w.heap.size w w' := by
  have H1 := Lib.hid (specSpread8_any r c a n w)
  have H2 := Lib.hid (fun W => spread8_any r c a n W)
  generalize brOr r c a n = z at *
  have z1 : (z != z) = false := by simp
  go_enter Try.func8, Try.ntmps8
  go_wp2_with fail
  refine H1.out.mono ?_
  rintro e w1 ⟨rfl, b1⟩
  have B1 := Lib.hid b1
  clear b1
  go_wp2_with fail
  refine (H2.out w1).mono ?_
  rintro e w2 ⟨rfl, b2⟩
  have B2 := Lib.hid (Below.next B1.out (Nat.le_refl _) b2)
  clear b2
  go_wp2
  go_ret
  exact ⟨rfl, B2.out⟩
end Go.Proofs.Ytmhngakfjlkchaa
