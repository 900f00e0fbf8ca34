/-
  How the laws of interleaving draw a list and a number of rows: what comes out, and what it leaves. Condition: the code has at most 2^20 bytes.
-/
import Derived.Test.YtmhngakfjlkchaaIlv3
import Derived.Test.YtmhngakfjlkchaaNibDraw
namespace Go.Proofs.Ytmhngakfjlkchaa
open Go.RowKit

/-- A drawn list and a drawn number of rows. -/
def TabDraw (w : World) (e : Ending) (w' : World) : Prop :=
  ∃ xs a c, ∃ r : Int, e = .returned (.tuple #[.slice a xs.length c, .int .i64 r]) ∧ (xs.length ≤ 1100 ∧ xs.length ≤ c ∧ c ≤ maxLen) ∧ (0 ≤ r ∧ r ≤ 33) ∧ Ints .i64 w' w'.heap.size a xs ∧ Below w.heap.size w w'
/-- Block b, not R, holds seven indices below 3. -/
def Sev8 (W : World) (R b : Nat) : Prop := b < W.heap.size ∧ b ≠ R ∧ ∀ k, k < 7 → ∃ i : Nat, i < 3 ∧ W.cell? ⟨b, k, none⟩ = some (.int .i64 (i : Int))
/-- Block b, not R, holds three numbers of rows. -/
def Thr8 (W : World) (R b : Nat) : Prop := b < W.heap.size ∧ b ≠ R ∧ ∀ k, k < 3 → ∃ y : Int, (0 ≤ y ∧ y ≤ 33) ∧ W.cell? ⟨b, k, none⟩ = some (.int .i64 y)
section
variable {W W' : World} {R b : Nat}
theorem Sev8.grown (h : Sev8 W R b) (g : W.grownBy W' (some R)) : Sev8 W' R b :=
  ⟨Nat.lt_of_lt_of_le h.1 g.size, h.2.1, fun k hk => by rw [World.cell?_of_block (g.block b h.1 (fun e => h.2.1 (by injection e)))]; exact h.2.2 k hk⟩
theorem Thr8.grown (h : Thr8 W R b) (g : W.grownBy W' (some R)) : Thr8 W' R b :=
  ⟨Nat.lt_of_lt_of_le h.1 g.size, h.2.1, fun k hk => by rw [World.cell?_of_block (g.block b h.1 (fun e => h.2.1 (by injection e)))]; exact h.2.2 k hk⟩
theorem Sev8.alloc (h : Sev8 W R b) (o : Obj) : Sev8 (W.alloc o) R b := h.grown (World.grownBy_alloc W o (some R))
theorem Thr8.alloc (h : Thr8 W R b) (o : Obj) : Thr8 (W.alloc o) R b := h.grown (World.grownBy_alloc W o (some R))
end
theorem sev8_new (W : World) {R : Nat} (hR : R < W.heap.size) : Sev8 (W.alloc (.cells #[.int .i64 0, .int .i64 0, .int .i64 0, .int .i64 0, .int .i64 0, .int .i64 1, .int .i64 2] 3)) R W.heap.size :=
  ⟨by simp, by omega, fun k hk => by
    rw [cell_of_row _ _ _ _ _ _ (heap_alloc_last W _)]
    match k, hk with
    | 0, _ | 1, _ | 2, _ | 3, _ | 4, _ => exact ⟨0, by omega, rfl⟩
    | 5, _ => exact ⟨1, by omega, rfl⟩
    | 6, _ => exact ⟨2, by omega, rfl⟩
    | (m + 7), h => exact absurd h (by omega)⟩
theorem thr8_new (W : World) (x : Int) {R : Nat} (hR : R < W.heap.size) (hx : 0 ≤ x ∧ x ≤ 33) : Thr8 (W.alloc (.cells #[.int .i64 x, .int .i64 0, .int .i64 33] 3)) R W.heap.size :=
  ⟨by simp, by omega, fun k hk => by
    rw [cell_of_row _ _ _ _ _ _ (heap_alloc_last W _)]
    match k, hk with
    | 0, _ => exact ⟨x, hx, rfl⟩
    | 1, _ => exact ⟨0, by omega, rfl⟩
    | 2, _ => exact ⟨33, by omega, rfl⟩
    | (m + 3), h => exact absurd h (by omega)⟩

set_option maxRecDepth 100000 in
set_option maxHeartbeats 8000000 in
theorem drawInterleave_any (a : Option Addr) (c : Nat) (ds : List Int) (w : World) (hx : Ints .u8 w w.heap.size a ds) (hw : ∀ n ∈ ds, isByte n) (hc : ds.length ≤ c) (hcm : c ≤ maxLen) :
    Calls Try.prog 9 #[.slice a ds.length c] w (TabDraw w) := by
  have hl : ds.length ≤ maxLen := Nat.le_trans hc hcm
  go_enter Try.func9, Try.ntmps9
  go_wp2_with fail
  refine (open_any a c ds w hx hw hc hl hcm).mono ?_
  rintro e w1 ⟨rfl, r1, b1⟩
  have R1 := Lib.hid r1
  have B1 := Lib.hid b1
  clear hx hw hc hcm hl r1 b1
  go_wp2_with fail
  refine (pick_any w.heap.size 0 7 w1 R1.out (by omega) (by omega) (by omega)).mono ?_
  rintro e w2 ⟨v1, ⟨hv1, hv1'⟩, rfl, r2, g2⟩
  have R2 := Lib.hid r2
  have B2 := Lib.hid (below_Rd B1.out g2 (Nat.le_refl _))
  clear r2 g2 R1 B1
  go_wp2_with fail
  refine (pick_any w.heap.size (0 + 1) 6 w2 R2.out (by omega) (by omega) (by omega)).mono ?_
  rintro e w3 ⟨v2, ⟨hv2, hv2'⟩, rfl, r3, g3⟩
  have R3 := Lib.hid r3
  have B3 := Lib.hid (below_Rd B2.out g3 (Nat.le_refl _))
  clear r3 g3 R2 B2
  obtain ⟨P, hP⟩ : ∃ P, P = (1 + v1) * v2 := ⟨_, rfl⟩
  have hPb : 0 ≤ P ∧ P ≤ 35 := by
    have : v2 = 0 ∨ v2 = 1 ∨ v2 = 2 ∨ v2 = 3 ∨ v2 = 4 ∨ v2 = 5 := by omega
    rcases this with rfl | rfl | rfl | rfl | rfl | rfl <;> omega
  obtain ⟨hP0, hP35⟩ := hPb
  have hmul : IntKind.i64.wrap ((1 + v1) * v2) = P := by rw [← hP, IntKind.wrap_i64]; omega
  have hmul' : wrap64 ((1 + v1) * v2) = P := by rw [← hP]; unfold wrap64; omega
  clear hP
  go_wp2_with fail
  refine (pick_any w.heap.size (0 + 1 + 1) 9 w3 R3.out (by omega) (by omega) (by omega)).mono ?_
  rintro e w4 ⟨v4, ⟨hv4, hv4'⟩, rfl, r4, g4⟩
  have R4 := Lib.hid r4
  have B4 := Lib.hid (below_Rd B3.out g4 (Nat.le_refl _))
  have hRb : w.heap.size < w4.heap.size := r4.lt
  clear r4 g4 R3 B3
  obtain ⟨n, hn⟩ : ∃ n : Nat, (n : Int) = P + v4 / 8 := ⟨(P + v4 / 8).toNat, by omega⟩
  have hn40 : n ≤ 40 := by omega
  have hf := fixed_any w.heap.size (0 + 1 + 1 + 1) n 0 w4 R4.out (by omega) (by omega) (.inl rfl)
  rw [hn] at hf
  have HF := Lib.hid hf
  clear hn hf
  go_wp2_with fail
  refine HF.out.mono ?_
  rintro e w5 ⟨xs, ad, m, cap, p5, rfl, hm, _, hg5, r5, hp5, gn5⟩
  have RD0' := Lib.hid r5
  have BE0' := Lib.hid (below_Rd B4.out gn5 (Nat.le_refl _))
  have LI0' := Lib.hid hg5
  have hl5 := hg5.len
  subst hl5
  have HM := Lib.hid (show xs.length ≤ 1100 ∧ xs.length ≤ cap ∧ cap ≤ maxLen from ⟨by omega, hg5.room⟩)
  clear hg5 r5 gn5 HF R4 B4 hmul hmul'
  go_wp2_with fail
  refine wp_region_any (by kernel_rfl) ?_
  change wpAny _ _ _ _ _ _ _ (World.drew _)
  have RD0 : Hid (Rd w5.drew w.heap.size p5) := RD0'.out
  have BE0 : Hid (Below w.heap.size w w5.drew) := below_drewN BE0'.out 1
  have LI0 : Hid (Grow .i64 3 w5.drew w4.heap.size (some ad) xs.length cap xs) := LI0'.out
  have hR0 : w.heap.size < w5.drew.heap.size := RD0.out.lt
  clear RD0' BE0' LI0'
  generalize w5.drew = u0 at RD0 BE0 LI0 hR0 ⊢
  refine wpAny_take (i := 0) (v := ?v1) rfl (by kernel_rfl) (by kernel_rfl) (by kernel_rfl) (fun _ _ _ h => h) (Or.inl ⟨by kernel_rfl, ?h1⟩) ?_
  case h1 => intro w; go_simp; try with_reducible rfl
  go_simp
  refine wpAny_take (i := 1) (v := ?v2) rfl (by kernel_rfl) (by kernel_rfl) (by kernel_rfl) (fun _ _ _ h => h) (Or.inl ⟨by kernel_rfl, ?h2⟩) ?_
  case h2 => intro w; go_simp; try with_reducible rfl
  go_simp
  refine wpAny_take (i := 4) (v := ?v3) rfl (by kernel_rfl) (by kernel_rfl) (by kernel_rfl) (fun _ _ _ h => h) (Or.inl ⟨by kernel_rfl, ?h3⟩) ?_
  case h3 => intro w; go_simp; try with_reducible rfl
  go_simp
  refine wpAny_ready (rs := [2, 3, 5]) (by kernel_rfl) (by simp) (AllReady.cons rfl (fun K hK => ?_) (AllReady.cons rfl (fun K hK => ?_) (AllReady.cons rfl (fun K hK => ?_) AllReady.nil)))
  · skip
    go_simp
    refine hK _ _ ?_
    clear hK K
    have RD4 := Lib.hid (RD0.out.alloc (.cells #[.int .i64 (1 + v1), .int .i64 0, .int .i64 33] 3))
    have BE4 := Lib.hid (BE0.out.alloc BE0.out.size (.cells #[.int .i64 (1 + v1), .int .i64 0, .int .i64 33] 3))
    have LI4 := Lib.hid (LI0.out.alloc (.cells #[.int .i64 (1 + v1), .int .i64 0, .int .i64 33] 3))
    have hR4 : w.heap.size < (u0.alloc (.cells #[.int .i64 (1 + v1), .int .i64 0, .int .i64 33] 3)).heap.size := RD4.out.lt
    have C34 := Lib.hid (thr8_new u0 (1 + v1) hR0 (by omega))
    generalize u0.alloc (.cells #[.int .i64 (1 + v1), .int .i64 0, .int .i64 33] 3) = u4 at RD4 BE4 LI4 hR4 C34 ⊢
    refine wpAny_ready (rs := [3, 5]) (by kernel_rfl) (by simp) (AllReady.cons rfl (fun K hK => ?_) (AllReady.cons rfl (fun K hK => ?_) AllReady.nil))
    · skip
      go_simp
      refine hK _ _ ?_
      clear hK K
      have RD5 := Lib.hid (RD4.out.alloc (.cells #[.int .i64 0, .int .i64 0, .int .i64 0, .int .i64 0, .int .i64 0, .int .i64 1, .int .i64 2] 3))
      have BE5 := Lib.hid (BE4.out.alloc BE4.out.size (.cells #[.int .i64 0, .int .i64 0, .int .i64 0, .int .i64 0, .int .i64 0, .int .i64 1, .int .i64 2] 3))
      have LI5 := Lib.hid (LI4.out.alloc (.cells #[.int .i64 0, .int .i64 0, .int .i64 0, .int .i64 0, .int .i64 0, .int .i64 1, .int .i64 2] 3))
      have hR5 : w.heap.size < (u4.alloc (.cells #[.int .i64 0, .int .i64 0, .int .i64 0, .int .i64 0, .int .i64 0, .int .i64 1, .int .i64 2] 3)).heap.size := RD5.out.lt
      have C75 := Lib.hid (sev8_new u4 hR4)
      have C35 := Lib.hid (C34.out.alloc (.cells #[.int .i64 0, .int .i64 0, .int .i64 0, .int .i64 0, .int .i64 0, .int .i64 1, .int .i64 2] 3))
      generalize u4.alloc (.cells #[.int .i64 0, .int .i64 0, .int .i64 0, .int .i64 0, .int .i64 0, .int .i64 1, .int .i64 2] 3) = u5 at RD5 BE5 LI5 hR5 C75 C35 ⊢
      refine wpAny_ready (rs := [5]) (by kernel_rfl) (by simp) (AllReady.cons rfl (fun K hK => ?_) AllReady.nil)
      go_simp
      refine (pick_any w.heap.size p5 7 u5 RD5.out (by omega) (by omega) (by omega)).mono ?_
      rintro e u6 ⟨x6, ⟨hx6, hy6⟩, rfl, r6, g6⟩
      have RD6 := Lib.hid r6
      have BE6 := Lib.hid (below_R BE5.out g6)
      have LI6 := Lib.hid (LI5.out.grownR g6 hRb)
      have hR6 : w.heap.size < u6.heap.size := r6.lt
      have C76 := Lib.hid (C75.out.grown g6)
      have C36 := Lib.hid (C35.out.grown g6)
      clear r6 g6
      go_simp
      refine hK _ _ ?_
      clear hK K
      obtain ⟨k6, rfl⟩ := Int.eq_ofNat_of_zero_le hx6
      have hk6 : k6 < 7 := by omega
      have hk6' : (k6 : Int) < 7 := by omega
      refine wpAny_take (i := 10) (v := ?v7) rfl (by kernel_rfl) (by kernel_rfl) (by kernel_rfl) (fun _ _ _ h => h) (Or.inl ⟨by kernel_rfl, ?h7⟩) ?_
      case h7 => intro w; go_simp; try with_reducible rfl
      go_simp
      refine wpAny_take (i := 6) (v := ?v8) rfl (by kernel_rfl) (by kernel_rfl) (by kernel_rfl) (fun _ _ _ h => h) (Or.inl ⟨by kernel_rfl, ?h8⟩) ?_
      case h8 => intro w; go_simp; try with_reducible rfl
      go_simp
      refine wpAny_ready (rs := [7]) (by kernel_rfl) (by simp) (AllReady.cons rfl (fun K hK => ?_) AllReady.nil)
      go_simp
      obtain ⟨i6, hi6, hc6⟩ := C76.out.2.2 k6 hk6
      have hi6' : (i6 : Int) < 3 := by omega
      go_simp
      refine hK _ _ ?_
      clear hK K hc6
      refine wpAny_take (i := 8) (v := ?v10) rfl (by kernel_rfl) (by kernel_rfl) (by kernel_rfl) (fun _ _ _ h => h) (Or.inl ⟨by kernel_rfl, ?h10⟩) ?_
      case h10 => intro w; go_simp; try with_reducible rfl
      go_simp
      refine wpAny_ready (rs := [9]) (by kernel_rfl) (by simp) (AllReady.cons rfl (fun K hK => ?_) AllReady.nil)
      go_simp
      obtain ⟨y, hyy, hy⟩ := C36.out.2.2 i6 hi6
      have HY := Lib.hid hyy
      clear hyy
      go_simp
      refine hK _ _ ?_
      clear hK K hy
      refine wpAny_take (i := 11) (v := ?v12) rfl (by kernel_rfl) (by kernel_rfl) (by kernel_rfl) (fun _ _ _ h => h) (Or.inl ⟨by kernel_rfl, ?h12⟩) ?_
      case h12 => intro w; go_simp; try with_reducible rfl
      go_simp
      refine wpAny_done (by kernel_rfl) ?_ _
      go_wp2
      go_ret2
      exact ⟨xs, some ad, cap, y, rfl, HM.out, HY.out, LI6.out.ints, BE6.out⟩
    · skip
      go_simp
      refine (pick_any w.heap.size p5 7 u4 RD4.out (by omega) (by omega) (by omega)).mono ?_
      rintro e u13 ⟨x13, ⟨hx13, hy13⟩, rfl, r13, g13⟩
      have RD13 := Lib.hid r13
      have BE13 := Lib.hid (below_R BE4.out g13)
      have LI13 := Lib.hid (LI4.out.grownR g13 hRb)
      have hR13 : w.heap.size < u13.heap.size := r13.lt
      have C313 := Lib.hid (C34.out.grown g13)
      clear r13 g13
      go_simp
      refine hK _ _ ?_
      clear hK K
      obtain ⟨k6, rfl⟩ := Int.eq_ofNat_of_zero_le hx13
      have hk6 : k6 < 7 := by omega
      have hk6' : (k6 : Int) < 7 := by omega
      refine wpAny_take (i := 10) (v := ?v14) rfl (by kernel_rfl) (by kernel_rfl) (by kernel_rfl) (fun _ _ _ h => h) (Or.inl ⟨by kernel_rfl, ?h14⟩) ?_
      case h14 => intro w; go_simp; try with_reducible rfl
      go_simp
      refine wpAny_ready (rs := [3]) (by kernel_rfl) (by simp) (AllReady.cons rfl (fun K hK => ?_) AllReady.nil)
      go_simp
      refine hK _ _ ?_
      clear hK K
      have RD15 := Lib.hid (RD13.out.alloc (.cells #[.int .i64 0, .int .i64 0, .int .i64 0, .int .i64 0, .int .i64 0, .int .i64 1, .int .i64 2] 3))
      have BE15 := Lib.hid (BE13.out.alloc BE13.out.size (.cells #[.int .i64 0, .int .i64 0, .int .i64 0, .int .i64 0, .int .i64 0, .int .i64 1, .int .i64 2] 3))
      have LI15 := Lib.hid (LI13.out.alloc (.cells #[.int .i64 0, .int .i64 0, .int .i64 0, .int .i64 0, .int .i64 0, .int .i64 1, .int .i64 2] 3))
      have hR15 : w.heap.size < (u13.alloc (.cells #[.int .i64 0, .int .i64 0, .int .i64 0, .int .i64 0, .int .i64 0, .int .i64 1, .int .i64 2] 3)).heap.size := RD15.out.lt
      have C715 := Lib.hid (sev8_new u13 hR13)
      have C315 := Lib.hid (C313.out.alloc (.cells #[.int .i64 0, .int .i64 0, .int .i64 0, .int .i64 0, .int .i64 0, .int .i64 1, .int .i64 2] 3))
      generalize u13.alloc (.cells #[.int .i64 0, .int .i64 0, .int .i64 0, .int .i64 0, .int .i64 0, .int .i64 1, .int .i64 2] 3) = u15 at RD15 BE15 LI15 hR15 C715 C315 ⊢
      refine wpAny_take (i := 6) (v := ?v16) rfl (by kernel_rfl) (by kernel_rfl) (by kernel_rfl) (fun _ _ _ h => h) (Or.inl ⟨by kernel_rfl, ?h16⟩) ?_
      case h16 => intro w; go_simp; try with_reducible rfl
      go_simp
      refine wpAny_ready (rs := [7]) (by kernel_rfl) (by simp) (AllReady.cons rfl (fun K hK => ?_) AllReady.nil)
      go_simp
      obtain ⟨i6, hi6, hc6⟩ := C715.out.2.2 k6 hk6
      have hi6' : (i6 : Int) < 3 := by omega
      go_simp
      refine hK _ _ ?_
      clear hK K hc6
      refine wpAny_take (i := 8) (v := ?v18) rfl (by kernel_rfl) (by kernel_rfl) (by kernel_rfl) (fun _ _ _ h => h) (Or.inl ⟨by kernel_rfl, ?h18⟩) ?_
      case h18 => intro w; go_simp; try with_reducible rfl
      go_simp
      refine wpAny_ready (rs := [9]) (by kernel_rfl) (by simp) (AllReady.cons rfl (fun K hK => ?_) AllReady.nil)
      go_simp
      obtain ⟨y, hyy, hy⟩ := C315.out.2.2 i6 hi6
      have HY := Lib.hid hyy
      clear hyy
      go_simp
      refine hK _ _ ?_
      clear hK K hy
      refine wpAny_take (i := 11) (v := ?v20) rfl (by kernel_rfl) (by kernel_rfl) (by kernel_rfl) (fun _ _ _ h => h) (Or.inl ⟨by kernel_rfl, ?h20⟩) ?_
      case h20 => intro w; go_simp; try with_reducible rfl
      go_simp
      refine wpAny_done (by kernel_rfl) ?_ _
      go_wp2
      go_ret2
      exact ⟨xs, some ad, cap, y, rfl, HM.out, HY.out, LI15.out.ints, BE15.out⟩
  · skip
    go_simp
    refine hK _ _ ?_
    clear hK K
    have RD21 := Lib.hid (RD0.out.alloc (.cells #[.int .i64 0, .int .i64 0, .int .i64 0, .int .i64 0, .int .i64 0, .int .i64 1, .int .i64 2] 3))
    have BE21 := Lib.hid (BE0.out.alloc BE0.out.size (.cells #[.int .i64 0, .int .i64 0, .int .i64 0, .int .i64 0, .int .i64 0, .int .i64 1, .int .i64 2] 3))
    have LI21 := Lib.hid (LI0.out.alloc (.cells #[.int .i64 0, .int .i64 0, .int .i64 0, .int .i64 0, .int .i64 0, .int .i64 1, .int .i64 2] 3))
    have hR21 : w.heap.size < (u0.alloc (.cells #[.int .i64 0, .int .i64 0, .int .i64 0, .int .i64 0, .int .i64 0, .int .i64 1, .int .i64 2] 3)).heap.size := RD21.out.lt
    have C721 := Lib.hid (sev8_new u0 hR0)
    generalize u0.alloc (.cells #[.int .i64 0, .int .i64 0, .int .i64 0, .int .i64 0, .int .i64 0, .int .i64 1, .int .i64 2] 3) = u21 at RD21 BE21 LI21 hR21 C721 ⊢
    refine wpAny_ready (rs := [2, 5]) (by kernel_rfl) (by simp) (AllReady.cons rfl (fun K hK => ?_) (AllReady.cons rfl (fun K hK => ?_) AllReady.nil))
    · skip
      go_simp
      refine hK _ _ ?_
      clear hK K
      have RD22 := Lib.hid (RD21.out.alloc (.cells #[.int .i64 (1 + v1), .int .i64 0, .int .i64 33] 3))
      have BE22 := Lib.hid (BE21.out.alloc BE21.out.size (.cells #[.int .i64 (1 + v1), .int .i64 0, .int .i64 33] 3))
      have LI22 := Lib.hid (LI21.out.alloc (.cells #[.int .i64 (1 + v1), .int .i64 0, .int .i64 33] 3))
      have hR22 : w.heap.size < (u21.alloc (.cells #[.int .i64 (1 + v1), .int .i64 0, .int .i64 33] 3)).heap.size := RD22.out.lt
      have C322 := Lib.hid (thr8_new u21 (1 + v1) hR21 (by omega))
      have C722 := Lib.hid (C721.out.alloc (.cells #[.int .i64 (1 + v1), .int .i64 0, .int .i64 33] 3))
      generalize u21.alloc (.cells #[.int .i64 (1 + v1), .int .i64 0, .int .i64 33] 3) = u22 at RD22 BE22 LI22 hR22 C322 C722 ⊢
      refine wpAny_ready (rs := [5]) (by kernel_rfl) (by simp) (AllReady.cons rfl (fun K hK => ?_) AllReady.nil)
      go_simp
      refine (pick_any w.heap.size p5 7 u22 RD22.out (by omega) (by omega) (by omega)).mono ?_
      rintro e u23 ⟨x23, ⟨hx23, hy23⟩, rfl, r23, g23⟩
      have RD23 := Lib.hid r23
      have BE23 := Lib.hid (below_R BE22.out g23)
      have LI23 := Lib.hid (LI22.out.grownR g23 hRb)
      have hR23 : w.heap.size < u23.heap.size := r23.lt
      have C723 := Lib.hid (C722.out.grown g23)
      have C323 := Lib.hid (C322.out.grown g23)
      clear r23 g23
      go_simp
      refine hK _ _ ?_
      clear hK K
      obtain ⟨k6, rfl⟩ := Int.eq_ofNat_of_zero_le hx23
      have hk6 : k6 < 7 := by omega
      have hk6' : (k6 : Int) < 7 := by omega
      refine wpAny_take (i := 10) (v := ?v24) rfl (by kernel_rfl) (by kernel_rfl) (by kernel_rfl) (fun _ _ _ h => h) (Or.inl ⟨by kernel_rfl, ?h24⟩) ?_
      case h24 => intro w; go_simp; try with_reducible rfl
      go_simp
      refine wpAny_take (i := 6) (v := ?v25) rfl (by kernel_rfl) (by kernel_rfl) (by kernel_rfl) (fun _ _ _ h => h) (Or.inl ⟨by kernel_rfl, ?h25⟩) ?_
      case h25 => intro w; go_simp; try with_reducible rfl
      go_simp
      refine wpAny_ready (rs := [7]) (by kernel_rfl) (by simp) (AllReady.cons rfl (fun K hK => ?_) AllReady.nil)
      go_simp
      obtain ⟨i6, hi6, hc6⟩ := C723.out.2.2 k6 hk6
      have hi6' : (i6 : Int) < 3 := by omega
      go_simp
      refine hK _ _ ?_
      clear hK K hc6
      refine wpAny_take (i := 8) (v := ?v27) rfl (by kernel_rfl) (by kernel_rfl) (by kernel_rfl) (fun _ _ _ h => h) (Or.inl ⟨by kernel_rfl, ?h27⟩) ?_
      case h27 => intro w; go_simp; try with_reducible rfl
      go_simp
      refine wpAny_ready (rs := [9]) (by kernel_rfl) (by simp) (AllReady.cons rfl (fun K hK => ?_) AllReady.nil)
      go_simp
      obtain ⟨y, hyy, hy⟩ := C323.out.2.2 i6 hi6
      have HY := Lib.hid hyy
      clear hyy
      go_simp
      refine hK _ _ ?_
      clear hK K hy
      refine wpAny_take (i := 11) (v := ?v29) rfl (by kernel_rfl) (by kernel_rfl) (by kernel_rfl) (fun _ _ _ h => h) (Or.inl ⟨by kernel_rfl, ?h29⟩) ?_
      case h29 => intro w; go_simp; try with_reducible rfl
      go_simp
      refine wpAny_done (by kernel_rfl) ?_ _
      go_wp2
      go_ret2
      exact ⟨xs, some ad, cap, y, rfl, HM.out, HY.out, LI23.out.ints, BE23.out⟩
    · skip
      go_simp
      refine (pick_any w.heap.size p5 7 u21 RD21.out (by omega) (by omega) (by omega)).mono ?_
      rintro e u30 ⟨x30, ⟨hx30, hy30⟩, rfl, r30, g30⟩
      have RD30 := Lib.hid r30
      have BE30 := Lib.hid (below_R BE21.out g30)
      have LI30 := Lib.hid (LI21.out.grownR g30 hRb)
      have hR30 : w.heap.size < u30.heap.size := r30.lt
      have C730 := Lib.hid (C721.out.grown g30)
      clear r30 g30
      go_simp
      refine hK _ _ ?_
      clear hK K
      obtain ⟨k6, rfl⟩ := Int.eq_ofNat_of_zero_le hx30
      have hk6 : k6 < 7 := by omega
      have hk6' : (k6 : Int) < 7 := by omega
      refine wpAny_take (i := 10) (v := ?v31) rfl (by kernel_rfl) (by kernel_rfl) (by kernel_rfl) (fun _ _ _ h => h) (Or.inl ⟨by kernel_rfl, ?h31⟩) ?_
      case h31 => intro w; go_simp; try with_reducible rfl
      go_simp
      refine wpAny_take (i := 6) (v := ?v32) rfl (by kernel_rfl) (by kernel_rfl) (by kernel_rfl) (fun _ _ _ h => h) (Or.inl ⟨by kernel_rfl, ?h32⟩) ?_
      case h32 => intro w; go_simp; try with_reducible rfl
      go_simp
      refine wpAny_ready (rs := [2, 7]) (by kernel_rfl) (by simp) (AllReady.cons rfl (fun K hK => ?_) (AllReady.cons rfl (fun K hK => ?_) AllReady.nil))
      · skip
        go_simp
        refine hK _ _ ?_
        clear hK K
        have RD33 := Lib.hid (RD30.out.alloc (.cells #[.int .i64 (1 + v1), .int .i64 0, .int .i64 33] 3))
        have BE33 := Lib.hid (BE30.out.alloc BE30.out.size (.cells #[.int .i64 (1 + v1), .int .i64 0, .int .i64 33] 3))
        have LI33 := Lib.hid (LI30.out.alloc (.cells #[.int .i64 (1 + v1), .int .i64 0, .int .i64 33] 3))
        have hR33 : w.heap.size < (u30.alloc (.cells #[.int .i64 (1 + v1), .int .i64 0, .int .i64 33] 3)).heap.size := RD33.out.lt
        have C333 := Lib.hid (thr8_new u30 (1 + v1) hR30 (by omega))
        have C733 := Lib.hid (C730.out.alloc (.cells #[.int .i64 (1 + v1), .int .i64 0, .int .i64 33] 3))
        generalize u30.alloc (.cells #[.int .i64 (1 + v1), .int .i64 0, .int .i64 33] 3) = u33 at RD33 BE33 LI33 hR33 C333 C733 ⊢
        refine wpAny_ready (rs := [7]) (by kernel_rfl) (by simp) (AllReady.cons rfl (fun K hK => ?_) AllReady.nil)
        go_simp
        obtain ⟨i6, hi6, hc6⟩ := C733.out.2.2 k6 hk6
        have hi6' : (i6 : Int) < 3 := by omega
        go_simp
        refine hK _ _ ?_
        clear hK K hc6
        refine wpAny_take (i := 8) (v := ?v35) rfl (by kernel_rfl) (by kernel_rfl) (by kernel_rfl) (fun _ _ _ h => h) (Or.inl ⟨by kernel_rfl, ?h35⟩) ?_
        case h35 => intro w; go_simp; try with_reducible rfl
        go_simp
        refine wpAny_ready (rs := [9]) (by kernel_rfl) (by simp) (AllReady.cons rfl (fun K hK => ?_) AllReady.nil)
        go_simp
        obtain ⟨y, hyy, hy⟩ := C333.out.2.2 i6 hi6
        have HY := Lib.hid hyy
        clear hyy
        go_simp
        refine hK _ _ ?_
        clear hK K hy
        refine wpAny_take (i := 11) (v := ?v37) rfl (by kernel_rfl) (by kernel_rfl) (by kernel_rfl) (fun _ _ _ h => h) (Or.inl ⟨by kernel_rfl, ?h37⟩) ?_
        case h37 => intro w; go_simp; try with_reducible rfl
        go_simp
        refine wpAny_done (by kernel_rfl) ?_ _
        go_wp2
        go_ret2
        exact ⟨xs, some ad, cap, y, rfl, HM.out, HY.out, LI33.out.ints, BE33.out⟩
      · skip
        go_simp
        obtain ⟨i6, hi6, hc6⟩ := C730.out.2.2 k6 hk6
        have hi6' : (i6 : Int) < 3 := by omega
        go_simp
        refine hK _ _ ?_
        clear hK K hc6
        refine wpAny_ready (rs := [2]) (by kernel_rfl) (by simp) (AllReady.cons rfl (fun K hK => ?_) AllReady.nil)
        go_simp
        refine hK _ _ ?_
        clear hK K
        have RD39 := Lib.hid (RD30.out.alloc (.cells #[.int .i64 (1 + v1), .int .i64 0, .int .i64 33] 3))
        have BE39 := Lib.hid (BE30.out.alloc BE30.out.size (.cells #[.int .i64 (1 + v1), .int .i64 0, .int .i64 33] 3))
        have LI39 := Lib.hid (LI30.out.alloc (.cells #[.int .i64 (1 + v1), .int .i64 0, .int .i64 33] 3))
        have hR39 : w.heap.size < (u30.alloc (.cells #[.int .i64 (1 + v1), .int .i64 0, .int .i64 33] 3)).heap.size := RD39.out.lt
        have C339 := Lib.hid (thr8_new u30 (1 + v1) hR30 (by omega))
        have C739 := Lib.hid (C730.out.alloc (.cells #[.int .i64 (1 + v1), .int .i64 0, .int .i64 33] 3))
        generalize u30.alloc (.cells #[.int .i64 (1 + v1), .int .i64 0, .int .i64 33] 3) = u39 at RD39 BE39 LI39 hR39 C339 C739 ⊢
        refine wpAny_take (i := 8) (v := ?v40) rfl (by kernel_rfl) (by kernel_rfl) (by kernel_rfl) (fun _ _ _ h => h) (Or.inl ⟨by kernel_rfl, ?h40⟩) ?_
        case h40 => intro w; go_simp; try with_reducible rfl
        go_simp
        refine wpAny_ready (rs := [9]) (by kernel_rfl) (by simp) (AllReady.cons rfl (fun K hK => ?_) AllReady.nil)
        go_simp
        obtain ⟨y, hyy, hy⟩ := C339.out.2.2 i6 hi6
        have HY := Lib.hid hyy
        clear hyy
        go_simp
        refine hK _ _ ?_
        clear hK K hy
        refine wpAny_take (i := 11) (v := ?v42) rfl (by kernel_rfl) (by kernel_rfl) (by kernel_rfl) (fun _ _ _ h => h) (Or.inl ⟨by kernel_rfl, ?h42⟩) ?_
        case h42 => intro w; go_simp; try with_reducible rfl
        go_simp
        refine wpAny_done (by kernel_rfl) ?_ _
        go_wp2
        go_ret2
        exact ⟨xs, some ad, cap, y, rfl, HM.out, HY.out, LI39.out.ints, BE39.out⟩
  · skip
    go_simp
    refine (pick_any w.heap.size p5 7 u0 RD0.out (by omega) (by omega) (by omega)).mono ?_
    rintro e u43 ⟨x43, ⟨hx43, hy43⟩, rfl, r43, g43⟩
    have RD43 := Lib.hid r43
    have BE43 := Lib.hid (below_R BE0.out g43)
    have LI43 := Lib.hid (LI0.out.grownR g43 hRb)
    have hR43 : w.heap.size < u43.heap.size := r43.lt
    clear r43 g43
    go_simp
    refine hK _ _ ?_
    clear hK K
    obtain ⟨k6, rfl⟩ := Int.eq_ofNat_of_zero_le hx43
    have hk6 : k6 < 7 := by omega
    have hk6' : (k6 : Int) < 7 := by omega
    refine wpAny_take (i := 10) (v := ?v44) rfl (by kernel_rfl) (by kernel_rfl) (by kernel_rfl) (fun _ _ _ h => h) (Or.inl ⟨by kernel_rfl, ?h44⟩) ?_
    case h44 => intro w; go_simp; try with_reducible rfl
    go_simp
    refine wpAny_ready (rs := [2, 3]) (by kernel_rfl) (by simp) (AllReady.cons rfl (fun K hK => ?_) (AllReady.cons rfl (fun K hK => ?_) AllReady.nil))
    · skip
      go_simp
      refine hK _ _ ?_
      clear hK K
      have RD45 := Lib.hid (RD43.out.alloc (.cells #[.int .i64 (1 + v1), .int .i64 0, .int .i64 33] 3))
      have BE45 := Lib.hid (BE43.out.alloc BE43.out.size (.cells #[.int .i64 (1 + v1), .int .i64 0, .int .i64 33] 3))
      have LI45 := Lib.hid (LI43.out.alloc (.cells #[.int .i64 (1 + v1), .int .i64 0, .int .i64 33] 3))
      have hR45 : w.heap.size < (u43.alloc (.cells #[.int .i64 (1 + v1), .int .i64 0, .int .i64 33] 3)).heap.size := RD45.out.lt
      have C345 := Lib.hid (thr8_new u43 (1 + v1) hR43 (by omega))
      generalize u43.alloc (.cells #[.int .i64 (1 + v1), .int .i64 0, .int .i64 33] 3) = u45 at RD45 BE45 LI45 hR45 C345 ⊢
      refine wpAny_ready (rs := [3]) (by kernel_rfl) (by simp) (AllReady.cons rfl (fun K hK => ?_) AllReady.nil)
      go_simp
      refine hK _ _ ?_
      clear hK K
      have RD46 := Lib.hid (RD45.out.alloc (.cells #[.int .i64 0, .int .i64 0, .int .i64 0, .int .i64 0, .int .i64 0, .int .i64 1, .int .i64 2] 3))
      have BE46 := Lib.hid (BE45.out.alloc BE45.out.size (.cells #[.int .i64 0, .int .i64 0, .int .i64 0, .int .i64 0, .int .i64 0, .int .i64 1, .int .i64 2] 3))
      have LI46 := Lib.hid (LI45.out.alloc (.cells #[.int .i64 0, .int .i64 0, .int .i64 0, .int .i64 0, .int .i64 0, .int .i64 1, .int .i64 2] 3))
      have hR46 : w.heap.size < (u45.alloc (.cells #[.int .i64 0, .int .i64 0, .int .i64 0, .int .i64 0, .int .i64 0, .int .i64 1, .int .i64 2] 3)).heap.size := RD46.out.lt
      have C746 := Lib.hid (sev8_new u45 hR45)
      have C346 := Lib.hid (C345.out.alloc (.cells #[.int .i64 0, .int .i64 0, .int .i64 0, .int .i64 0, .int .i64 0, .int .i64 1, .int .i64 2] 3))
      generalize u45.alloc (.cells #[.int .i64 0, .int .i64 0, .int .i64 0, .int .i64 0, .int .i64 0, .int .i64 1, .int .i64 2] 3) = u46 at RD46 BE46 LI46 hR46 C746 C346 ⊢
      refine wpAny_take (i := 6) (v := ?v47) rfl (by kernel_rfl) (by kernel_rfl) (by kernel_rfl) (fun _ _ _ h => h) (Or.inl ⟨by kernel_rfl, ?h47⟩) ?_
      case h47 => intro w; go_simp; try with_reducible rfl
      go_simp
      refine wpAny_ready (rs := [7]) (by kernel_rfl) (by simp) (AllReady.cons rfl (fun K hK => ?_) AllReady.nil)
      go_simp
      obtain ⟨i6, hi6, hc6⟩ := C746.out.2.2 k6 hk6
      have hi6' : (i6 : Int) < 3 := by omega
      go_simp
      refine hK _ _ ?_
      clear hK K hc6
      refine wpAny_take (i := 8) (v := ?v49) rfl (by kernel_rfl) (by kernel_rfl) (by kernel_rfl) (fun _ _ _ h => h) (Or.inl ⟨by kernel_rfl, ?h49⟩) ?_
      case h49 => intro w; go_simp; try with_reducible rfl
      go_simp
      refine wpAny_ready (rs := [9]) (by kernel_rfl) (by simp) (AllReady.cons rfl (fun K hK => ?_) AllReady.nil)
      go_simp
      obtain ⟨y, hyy, hy⟩ := C346.out.2.2 i6 hi6
      have HY := Lib.hid hyy
      clear hyy
      go_simp
      refine hK _ _ ?_
      clear hK K hy
      refine wpAny_take (i := 11) (v := ?v51) rfl (by kernel_rfl) (by kernel_rfl) (by kernel_rfl) (fun _ _ _ h => h) (Or.inl ⟨by kernel_rfl, ?h51⟩) ?_
      case h51 => intro w; go_simp; try with_reducible rfl
      go_simp
      refine wpAny_done (by kernel_rfl) ?_ _
      go_wp2
      go_ret2
      exact ⟨xs, some ad, cap, y, rfl, HM.out, HY.out, LI46.out.ints, BE46.out⟩
    · skip
      go_simp
      refine hK _ _ ?_
      clear hK K
      have RD52 := Lib.hid (RD43.out.alloc (.cells #[.int .i64 0, .int .i64 0, .int .i64 0, .int .i64 0, .int .i64 0, .int .i64 1, .int .i64 2] 3))
      have BE52 := Lib.hid (BE43.out.alloc BE43.out.size (.cells #[.int .i64 0, .int .i64 0, .int .i64 0, .int .i64 0, .int .i64 0, .int .i64 1, .int .i64 2] 3))
      have LI52 := Lib.hid (LI43.out.alloc (.cells #[.int .i64 0, .int .i64 0, .int .i64 0, .int .i64 0, .int .i64 0, .int .i64 1, .int .i64 2] 3))
      have hR52 : w.heap.size < (u43.alloc (.cells #[.int .i64 0, .int .i64 0, .int .i64 0, .int .i64 0, .int .i64 0, .int .i64 1, .int .i64 2] 3)).heap.size := RD52.out.lt
      have C752 := Lib.hid (sev8_new u43 hR43)
      generalize u43.alloc (.cells #[.int .i64 0, .int .i64 0, .int .i64 0, .int .i64 0, .int .i64 0, .int .i64 1, .int .i64 2] 3) = u52 at RD52 BE52 LI52 hR52 C752 ⊢
      refine wpAny_take (i := 6) (v := ?v53) rfl (by kernel_rfl) (by kernel_rfl) (by kernel_rfl) (fun _ _ _ h => h) (Or.inl ⟨by kernel_rfl, ?h53⟩) ?_
      case h53 => intro w; go_simp; try with_reducible rfl
      go_simp
      refine wpAny_ready (rs := [2, 7]) (by kernel_rfl) (by simp) (AllReady.cons rfl (fun K hK => ?_) (AllReady.cons rfl (fun K hK => ?_) AllReady.nil))
      · skip
        go_simp
        refine hK _ _ ?_
        clear hK K
        have RD54 := Lib.hid (RD52.out.alloc (.cells #[.int .i64 (1 + v1), .int .i64 0, .int .i64 33] 3))
        have BE54 := Lib.hid (BE52.out.alloc BE52.out.size (.cells #[.int .i64 (1 + v1), .int .i64 0, .int .i64 33] 3))
        have LI54 := Lib.hid (LI52.out.alloc (.cells #[.int .i64 (1 + v1), .int .i64 0, .int .i64 33] 3))
        have hR54 : w.heap.size < (u52.alloc (.cells #[.int .i64 (1 + v1), .int .i64 0, .int .i64 33] 3)).heap.size := RD54.out.lt
        have C354 := Lib.hid (thr8_new u52 (1 + v1) hR52 (by omega))
        have C754 := Lib.hid (C752.out.alloc (.cells #[.int .i64 (1 + v1), .int .i64 0, .int .i64 33] 3))
        generalize u52.alloc (.cells #[.int .i64 (1 + v1), .int .i64 0, .int .i64 33] 3) = u54 at RD54 BE54 LI54 hR54 C354 C754 ⊢
        refine wpAny_ready (rs := [7]) (by kernel_rfl) (by simp) (AllReady.cons rfl (fun K hK => ?_) AllReady.nil)
        go_simp
        obtain ⟨i6, hi6, hc6⟩ := C754.out.2.2 k6 hk6
        have hi6' : (i6 : Int) < 3 := by omega
        go_simp
        refine hK _ _ ?_
        clear hK K hc6
        refine wpAny_take (i := 8) (v := ?v56) rfl (by kernel_rfl) (by kernel_rfl) (by kernel_rfl) (fun _ _ _ h => h) (Or.inl ⟨by kernel_rfl, ?h56⟩) ?_
        case h56 => intro w; go_simp; try with_reducible rfl
        go_simp
        refine wpAny_ready (rs := [9]) (by kernel_rfl) (by simp) (AllReady.cons rfl (fun K hK => ?_) AllReady.nil)
        go_simp
        obtain ⟨y, hyy, hy⟩ := C354.out.2.2 i6 hi6
        have HY := Lib.hid hyy
        clear hyy
        go_simp
        refine hK _ _ ?_
        clear hK K hy
        refine wpAny_take (i := 11) (v := ?v58) rfl (by kernel_rfl) (by kernel_rfl) (by kernel_rfl) (fun _ _ _ h => h) (Or.inl ⟨by kernel_rfl, ?h58⟩) ?_
        case h58 => intro w; go_simp; try with_reducible rfl
        go_simp
        refine wpAny_done (by kernel_rfl) ?_ _
        go_wp2
        go_ret2
        exact ⟨xs, some ad, cap, y, rfl, HM.out, HY.out, LI54.out.ints, BE54.out⟩
      · skip
        go_simp
        obtain ⟨i6, hi6, hc6⟩ := C752.out.2.2 k6 hk6
        have hi6' : (i6 : Int) < 3 := by omega
        go_simp
        refine hK _ _ ?_
        clear hK K hc6
        refine wpAny_ready (rs := [2]) (by kernel_rfl) (by simp) (AllReady.cons rfl (fun K hK => ?_) AllReady.nil)
        go_simp
        refine hK _ _ ?_
        clear hK K
        have RD60 := Lib.hid (RD52.out.alloc (.cells #[.int .i64 (1 + v1), .int .i64 0, .int .i64 33] 3))
        have BE60 := Lib.hid (BE52.out.alloc BE52.out.size (.cells #[.int .i64 (1 + v1), .int .i64 0, .int .i64 33] 3))
        have LI60 := Lib.hid (LI52.out.alloc (.cells #[.int .i64 (1 + v1), .int .i64 0, .int .i64 33] 3))
        have hR60 : w.heap.size < (u52.alloc (.cells #[.int .i64 (1 + v1), .int .i64 0, .int .i64 33] 3)).heap.size := RD60.out.lt
        have C360 := Lib.hid (thr8_new u52 (1 + v1) hR52 (by omega))
        have C760 := Lib.hid (C752.out.alloc (.cells #[.int .i64 (1 + v1), .int .i64 0, .int .i64 33] 3))
        generalize u52.alloc (.cells #[.int .i64 (1 + v1), .int .i64 0, .int .i64 33] 3) = u60 at RD60 BE60 LI60 hR60 C360 C760 ⊢
        refine wpAny_take (i := 8) (v := ?v61) rfl (by kernel_rfl) (by kernel_rfl) (by kernel_rfl) (fun _ _ _ h => h) (Or.inl ⟨by kernel_rfl, ?h61⟩) ?_
        case h61 => intro w; go_simp; try with_reducible rfl
        go_simp
        refine wpAny_ready (rs := [9]) (by kernel_rfl) (by simp) (AllReady.cons rfl (fun K hK => ?_) AllReady.nil)
        go_simp
        obtain ⟨y, hyy, hy⟩ := C360.out.2.2 i6 hi6
        have HY := Lib.hid hyy
        clear hyy
        go_simp
        refine hK _ _ ?_
        clear hK K hy
        refine wpAny_take (i := 11) (v := ?v63) rfl (by kernel_rfl) (by kernel_rfl) (by kernel_rfl) (fun _ _ _ h => h) (Or.inl ⟨by kernel_rfl, ?h63⟩) ?_
        case h63 => intro w; go_simp; try with_reducible rfl
        go_simp
        refine wpAny_done (by kernel_rfl) ?_ _
        go_wp2
        go_ret2
        exact ⟨xs, some ad, cap, y, rfl, HM.out, HY.out, LI60.out.ints, BE60.out⟩
set_option maxHeartbeats 400000 in
theorem drawDeinterleave_any (a : Option Addr) (c : Nat) (ds : List Int) (w : World) (hx : Ints .u8 w w.heap.size a ds) (hw : ∀ n ∈ ds, isByte n) (hc : ds.length ≤ c) (hcm : c ≤ maxLen) :
    Calls Try.prog 15 #[.slice a ds.length c] w (TabDraw w) := by
  have HD := Lib.hid (drawInterleave_any a c ds w hx hw hc hcm)
  clear hx hw hc hcm
  go_enter Try.func15, Try.ntmps15
  go_wp2_with fail
  refine HD.out.mono ?_
  rintro e w1 ⟨xs, a1, c1, r, rfl, h1, h2, h3, h4⟩
  have H : Hid (TabDraw w (.returned (.tuple #[.slice a1 xs.length c1, .int .i64 r])) w1) := ⟨xs, a1, c1, r, rfl, h1, h2, h3, h4⟩
  clear h1 h2 h3 h4
  go_wp2
  go_ret2
  exact H.out
end Go.Proofs.Ytmhngakfjlkchaa
