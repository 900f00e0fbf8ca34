/-
  What the laws of DespreadSums, DespreadBits and SpreadBits draw. No condition.
-/
import Derived.Test.YtnnknfpkbhcghaaWsDraw
namespace Go.Proofs.Ytnnknfpkbhcghaa
open Go.RowKit

theorem adOr_small {xs ys : List Int} (h1 : chOk 1 xs = true) (h2 : chOk 1 ys = true) : ∀ x ∈ adOr xs ys, -8001 ≤ x ∧ x ≤ 8001 := fun x hx => by
  unfold adOr at hx
  split at hx
  · simp only [adL, List.mem_map] at hx
    obtain ⟨i, _, rfl⟩ := hx
    have := chOk_in (by decide) h1 i
    have := chOk_in (by decide) h2 i
    omega
  · simp at hx
theorem adOr_len {xs ys : List Int} {n : Nat} (h : xs.length = n) : (adOr xs ys).length ≤ n := by
  unfold adOr
  split
  · rw [adL_length, h]; exact Nat.le_refl _
  · simp
def inW (M : Int) (xs : List Int) : Prop := ∀ x ∈ xs, -M ≤ x ∧ x ≤ M
theorem inW_snoc {M : Int} {xs : List Int} {x : Int} (h : inW M xs) (hx : -M ≤ x ∧ x ≤ M) : inW M (xs ++ [x]) := fun y hy => by
  rcases List.mem_append.1 hy with hy | hy
  · exact h y hy
  · simp at hy; subst hy; exact hx
theorem inW_set {M : Int} {xs : List Int} {x : Int} {j : Nat} (h : inW M xs) (hx : -M ≤ x ∧ x ≤ M) : inW M (xs.set j x) := fun y hy => by
  rcases List.mem_or_eq_of_mem_set hy with hy | rfl
  · exact h y hy
  · exact hx
/-- Drawn chips; only the reader was written besides. -/
def ChD (R : Nat) (w : World) (e : Ending) (w' : World) : Prop :=
  ∃ xs a n cap k, e = .returned (.tuple #[.slice a n cap, .int .i64 k]) ∧ n ≤ 25 ∧ (0 ≤ k ∧ k ≤ 16) ∧ inW 8001 xs ∧ Grow .i64 3 w' w.heap.size a n cap xs ∧ w.grownBy w' (some R)
set_option maxHeartbeats 4000000 in
theorem chips_any (R p : Nat) (w : World) (hr : Rd w R p) (hp : p ≤ 1000) : Calls Try.prog 52 #[.pointer (some ⟨R, 0, none⟩)] w (ChD R w) := by
  have R00 := Lib.hid hr
  have hRw := hr.lt
  clear hr
  go_enter Try.func52, Try.ntmps52
  go_wp2_with fail
  refine (pick_any R p 4 w R00.out (by omega) (by omega) (by omega)).mono ?_
  rintro e w0 ⟨v0, ⟨hv0, hv0'⟩, rfl, r0, g0⟩
  obtain ⟨N, rfl⟩ := Int.eq_ofNat_of_zero_le hv0
  have h0 : R < w0.heap.size := r0.lt
  have R0 := Lib.hid r0
  have N0 := Lib.hid g0
  have hN3 : N ≤ 3 := by omega
  clear r0 g0 hv0 hv0'
  go_wp2_with fail
  refine (fixedW_any R (p + 1) N w0 R0.out (by omega) (by omega)).mono ?_
  rintro e w1 ⟨xs, ad1, c1, p1, rfl, ok1, gr1, r1, hp1, g1⟩
  have h1 : R < w1.heap.size := r1.lt
  have R1 := Lib.hid r1
  have N1 := Lib.hid (grown_trans N0.out g1)
  have OK1 := Lib.hid ok1
  have L1 := Lib.hid gr1
  clear r1 g1 ok1 gr1
  go_wp2_with fail
  refine (pick_any R p1 8 w1 R1.out (by omega) (by omega) (by omega)).mono ?_
  rintro e w2 ⟨v2, ⟨hv2, hv2'⟩, rfl, r2, g2⟩
  obtain ⟨K, rfl⟩ := Int.eq_ofNat_of_zero_le hv2
  have h2 : R < w2.heap.size := r2.lt
  have R2 := Lib.hid r2
  have N2 := Lib.hid (grown_trans N1.out g2)
  have L2 := Lib.hid (L1.out.grownR g2 h0)
  have hlx := L2.out.len
  have HLen2 := Lib.hid (sprLen OK1.out hlx (by omega) (show K < 8 by omega))
  have HIn2 := Lib.hid (sprIn xs (K : Int))
  have HS := Lib.hid (specSpreadBits_new (some ad1) c1 xs (K : Int) w2 L2.out.ints (by rw [hlx]; unfold maxLen; omega))
  rw [hlx] at HS
  clear r2 g2 hv2 hv2' hlx
  go_wp2_with fail
  refine HS.out.mono ?_
  rintro e w3 ⟨a3, n3, c3, rfl, gA, b3⟩
  obtain rfl : (sprOr xs (K : Int)).length = n3 := gA.len
  have R3 := Lib.hid (R2.out.below b3 h2)
  have N3 := Lib.hid (grown_below N2.out b3 N2.out.size)
  have A3 := Lib.hid gA
  have h3 : R < w3.heap.size := R3.out.lt
  clear gA b3 HS L2 L1 OK1
  generalize sprOr xs (K : Int) = us at *
  have hA : R < w2.heap.size := h2
  go_wp2_with fail
  refine (fixedW_any R (p1 + 1) N w3 R3.out (by omega) (by omega)).mono ?_
  rintro e w4 ⟨ys, ad4, c4, p4, rfl, ok4, gr4, r4, hp4, g4⟩
  have h4 : R < w4.heap.size := r4.lt
  have R4 := Lib.hid r4
  have N4 := Lib.hid (grown_trans N3.out g4)
  have OK4 := Lib.hid ok4
  have L4 := Lib.hid gr4
  have A4 := Lib.hid (A3.out.grownR g4 hA)
  clear r4 g4 ok4 gr4
  go_wp2_with fail
  refine (pick_any R p4 8 w4 R4.out (by omega) (by omega) (by omega)).mono ?_
  rintro e w5 ⟨v5, ⟨hv5, hv5'⟩, rfl, r5, g5⟩
  obtain ⟨J, rfl⟩ := Int.eq_ofNat_of_zero_le hv5
  have h5 : R < w5.heap.size := r5.lt
  have R5 := Lib.hid r5
  have N5 := Lib.hid (grown_trans N4.out g5)
  have L5 := Lib.hid (L4.out.grownR g5 h3)
  have A5 := Lib.hid (A4.out.grownR g5 hA)
  have hlx := L5.out.len
  have HLen5 := Lib.hid (sprLen OK4.out hlx (by omega) (show J < 8 by omega))
  have HIn5 := Lib.hid (sprIn ys (J : Int))
  have HS := Lib.hid (specSpreadBits_new (some ad4) c4 ys (J : Int) w5 L5.out.ints (by rw [hlx]; unfold maxLen; omega))
  rw [hlx] at HS
  clear r5 g5 hv5 hv5' hlx
  go_wp2_with fail
  refine HS.out.mono ?_
  rintro e w6 ⟨a6, n6, c6, rfl, gA, b6⟩
  obtain rfl : (sprOr ys (J : Int)).length = n6 := gA.len
  have R6 := Lib.hid (R5.out.below b6 h5)
  have N6 := Lib.hid (grown_below N5.out b6 N5.out.size)
  have V6 := Lib.hid gA
  have A6 := Lib.hid (A5.out.below b6)
  have h6 : R < w6.heap.size := R6.out.lt
  clear gA b6 HS L5 L4 OK4
  generalize sprOr ys (J : Int) = vs at *
  have s07 : w.heap.size ≤ w6.heap.size := N6.out.size
  have HS := Lib.hid (specAddChips_new a3 a6 c3 c6 us vs w6 A6.out.ints V6.out.ints)
  have HSm : Hid (inW 8001 (adOr us vs)) := Lib.hid (adOr_small HIn2.out HIn5.out)
  have hCl := adOr_len (xs := us) (ys := vs) HLen2.out
  clear A3 A4 A5 A6 V6
  go_wp2_with fail
  refine HS.out.mono ?_
  rintro e w7' ⟨aC, n, cC, rfl, gC, b7⟩
  obtain rfl : (adOr us vs).length = n := gC.len
  have R8 := Lib.hid (R6.out.below b7 h6)
  have N8 := Lib.hid (grown_below N6.out b7 s07)
  have C8 := Lib.hid gC
  have s7w8 : w6.heap.size ≤ w7'.heap.size := b7.size
  clear gC b7 HS
  generalize adOr us vs = cs at *
  obtain ⟨w7, hw7⟩ : ∃ w7, w7 = w6 := ⟨_, rfl⟩
  rw [← hw7] at C8 s07 s7w8
  have hR7 : R < w7.heap.size := by rw [hw7]; exact h6
  obtain ⟨w8, hw8⟩ : ∃ w8, w8 = w7' := ⟨_, rfl⟩
  subst hw8
  clear hw7 h6 N6 R6
  have h8 : R < w8.heap.size := R8.out.lt
  have hp8 : p4 ≤ 100000 := by omega
  by_cases hc0 : 0 < cs.length
  · have hc0' : (0 : Int) < (cs.length : Int) := by omega
    go_wp2_with fail
    refine (odd_any R (p4 + 1) 4 w8 R8.out (by omega) (by omega) (by omega)).mono ?_
    rintro e w9 ⟨b9, rfl, r9, g9⟩
    have R9 := Lib.hid r9
    have N9 := Lib.hid (grown_trans N8.out g9)
    have C9 := Lib.hid (C8.out.grownR g9 hR7)
    have s7w9 : w7.heap.size ≤ w9.heap.size := Nat.le_trans s7w8 g9.size
    clear r9 g9
    cases b9
    · go_wp2_with fail
      refine (odd_any R (p4 + 1 + 1) 12 w9 R9.out (by omega) (by omega) (by omega)).mono ?_
      rintro e wo ⟨bo, rfl, ro, go⟩
      have Ro := Lib.hid ro
      have No := Lib.hid (grown_trans N9.out go)
      have Co := Lib.hid (C9.out.grownR go hR7)
      have s7o : w7.heap.size ≤ wo.heap.size := Nat.le_trans s7w9 go.size
      clear ro go
      cases bo
      · go_wp2_with fail
        refine (pick_any R (p4 + 1 + 1 + 1) 8 wo Ro.out (by omega) (by omega) (by omega)).mono ?_
        rintro e wx ⟨v1, ⟨hv1, hv1'⟩, rfl, rx, gx⟩
        have Rx := Lib.hid rx
        have Nx := Lib.hid (grown_trans No.out gx)
        have Cx := Lib.hid (Co.out.grownR gx hR7)
        clear rx gx
        go_wp2_with fail
        refine (pick_any R (p4 + 1 + 1 + 1 + 1) 14 wx Rx.out (by omega) (by omega) (by omega)).mono ?_
        rintro e wy ⟨v2, ⟨hv2, hv2'⟩, rfl, ry, gy⟩
        have Ny := Lib.hid (grown_trans Nx.out gy)
        have Cy := Lib.hid ((Cx.out.grownR gy hR7).base_le s07)
        have HK := Lib.hid (show 0 ≤ v1 + v2 / 13 * 9 ∧ v1 + v2 / 13 * 9 ≤ 16 by omega)
        clear ry gy Rx
        go_wp2
        go_ret2
        exact ⟨_, _, _, _, _, rfl, by omega, HK.out, HSm.out, Cy.out, Ny.out⟩
      · go_wp2_with (at_builtin; refine wpList_append1 (.tmp 48) (.tmp 49) w7.heap.size aC cs.length cC cs ⟨wo.heap.size, 0, none⟩ 1 rfl rfl rfl rfl (Co.out.alloc _) (by simp) (by omega) (by simp; omega) ?_; intro a3 cap3 w3' hg3 hb3; have CZ := Lib.hid hg3; have RZ := Lib.hid ((Ro.out.alloc _).below hb3 hR7); have NZ := Lib.hid (grown_below (grown_alloc No.out _) hb3 s07); have SZ := Lib.hid (inW_snoc HSm.out (x := 1) (by omega)); clear hg3 hb3)
        go_wp2_with fail
        refine (pick_any R (p4 + 1 + 1 + 1) 8 w3' RZ.out (by omega) (by omega) (by omega)).mono ?_
        rintro e wx ⟨v1, ⟨hv1, hv1'⟩, rfl, rx, gx⟩
        have Rx := Lib.hid rx
        have Nx := Lib.hid (grown_trans NZ.out gx)
        have Cx := Lib.hid (CZ.out.grownR gx hR7)
        clear rx gx
        go_wp2_with fail
        refine (pick_any R (p4 + 1 + 1 + 1 + 1) 14 wx Rx.out (by omega) (by omega) (by omega)).mono ?_
        rintro e wy ⟨v2, ⟨hv2, hv2'⟩, rfl, ry, gy⟩
        have Ny := Lib.hid (grown_trans Nx.out gy)
        have Cy := Lib.hid ((Cx.out.grownR gy hR7).base_le s07)
        have HK := Lib.hid (show 0 ≤ v1 + v2 / 13 * 9 ∧ v1 + v2 / 13 * 9 ≤ 16 by omega)
        clear ry gy Rx
        go_wp2
        go_ret2
        exact ⟨_, _, _, _, _, rfl, by omega, HK.out, SZ.out, Cy.out, Ny.out⟩
    · go_wp2_with fail
      refine (pick_any R (p4 + 1 + 1) (cs.length : Int) w9 R9.out (by omega) (by omega) (by omega)).mono ?_
      rintro e wa ⟨va, ⟨hva, hva'⟩, rfl, ra, ga⟩
      obtain ⟨j, rfl⟩ := Int.eq_ofNat_of_zero_le hva
      have hj : j < cs.length := by omega
      have Ra := Lib.hid ra
      have Na := Lib.hid (grown_trans N9.out ga)
      have Ca := Lib.hid (C9.out.grownR ga hR7)
      have s7wa : w7.heap.size ≤ wa.heap.size := Nat.le_trans s7w9 ga.size
      clear ra ga hva hva'
      go_wp2_with fail
      refine (pick_any R (p4 + 1 + 1 + 1) 40 wa Ra.out (by omega) (by omega) (by omega)).mono ?_
      rintro e wb ⟨vb, ⟨hvb, hvb'⟩, rfl, rb, gb⟩
      have Rb := Lib.hid rb
      have Nb := Lib.hid (grown_trans Na.out gb)
      have Cb := Lib.hid (Ca.out.grownR gb hR7)
      have s7wb : w7.heap.size ≤ wb.heap.size := Nat.le_trans s7wa gb.size
      have hRb : R < wb.heap.size := rb.lt
      clear rb gb
      go_wp2_with fail
      refine (pick_any R (p4 + 1 + 1 + 1 + 1) 3 _ (Rb.out.alloc _) (by omega) (by omega) (by omega)).mono ?_
      rintro e wc ⟨vc, ⟨hvc, hvc'⟩, rfl, rc, gc⟩
      obtain ⟨i, rfl⟩ := Int.eq_ofNat_of_zero_le hvc
      have hi : i < 3 := by omega
      have hcell : ∃ x : Int, wc.cell? ⟨wb.heap.size, i, none⟩ = some (.int .i64 x) ∧ -8001 ≤ x ∧ x ≤ 8001 := by
        rw [cell_grownW gc hRb]
        match i, hi with
        | 0, _ => exact ⟨_, rfl, by omega, by omega⟩
        | 1, _ => exact ⟨_, rfl, by omega, by omega⟩
        | 2, _ => exact ⟨_, rfl, by omega, by omega⟩
        | (m + 3), h => exact absurd h (by omega)
      obtain ⟨x, hcx, hx1, hx2⟩ := hcell
      have Rc := Lib.hid rc
      have Nc := Lib.hid (grown_trans (grown_alloc Nb.out _) gc)
      have Cc := Lib.hid ((Cb.out.alloc _).grownR gc hR7)
      have s7wc : w7.heap.size ≤ wc.heap.size := Nat.le_trans (Nat.le_trans s7wb (by simp)) gc.size
      obtain ⟨bC, _, rfl, hbC, _, _, _, _⟩ := Cc.out.row hc0
      obtain ⟨⟨u, hcu⟩, hfu⟩ := grow_cell (i := j) Cc.out hj
      have HSm2 : Hid (inW 8001 (cs.set j x)) := Lib.hid (inW_set HSm.out ⟨hx1, hx2⟩)
      have hbel : Below w7.heap.size wc (wc.setCell ⟨bC, j, none⟩ (.int .i64 x)) := (Below.refl _ _).setCell (by show w7.heap.size ≤ bC; exact hbC) _
      have Cd := Lib.hid (Cc.out.set j x)
      have Rd' := Lib.hid (Rc.out.below hbel hR7)
      have Nd := Lib.hid (grown_below Nc.out hbel s07)
      have s7wd : w7.heap.size ≤ (wc.setCell ⟨bC, j, none⟩ (.int .i64 x)).heap.size := Nat.le_trans s7wc hbel.size
      have hset : cs.length = (cs.set j x).length := by simp
      have HSet := Lib.hid hset
      clear rc gc hvc hvc' hx1 hx2 hbel hvb hvb' hset
      go_wp2_with fail
      generalize wc.setCell ⟨bC, j, none⟩ (.int .i64 x) = wd at *
      refine (odd_any R (p4 + 1 + 1 + 1 + 1 + 1) 12 wd Rd'.out (by omega) (by omega) (by omega)).mono ?_
      rintro e wo ⟨bo, rfl, ro, go⟩
      have Ro := Lib.hid ro
      have No := Lib.hid (grown_trans Nd.out go)
      have Co := Lib.hid (Cd.out.grownR go hR7)
      have s7o : w7.heap.size ≤ wo.heap.size := Nat.le_trans s7wd go.size
      clear ro go
      cases bo
      · go_wp2_with fail
        refine (pick_any R (p4 + 1 + 1 + 1 + 1 + 1 + 1) 8 wo Ro.out (by omega) (by omega) (by omega)).mono ?_
        rintro e wx ⟨v1, ⟨hv1, hv1'⟩, rfl, rx, gx⟩
        have Rx := Lib.hid rx
        have Nx := Lib.hid (grown_trans No.out gx)
        have Cx := Lib.hid (Co.out.grownR gx hR7)
        clear rx gx
        go_wp2_with fail
        refine (pick_any R (p4 + 1 + 1 + 1 + 1 + 1 + 1 + 1) 14 wx Rx.out (by omega) (by omega) (by omega)).mono ?_
        rintro e wy ⟨v2, ⟨hv2, hv2'⟩, rfl, ry, gy⟩
        have Ny := Lib.hid (grown_trans Nx.out gy)
        have Cy := Lib.hid ((Cx.out.grownR gy hR7).base_le s07)
        have HK := Lib.hid (show 0 ≤ v1 + v2 / 13 * 9 ∧ v1 + v2 / 13 * 9 ≤ 16 by omega)
        clear ry gy Rx
        go_wp2
        go_ret2
        exact ⟨_, _, _, _, _, rfl, by omega, HK.out, HSm2.out, Cy.out, Ny.out⟩
      · go_wp2_with (at_builtin; refine wpList_append1 (.tmp 48) (.tmp 49) w7.heap.size (some ⟨bC, 0, none⟩) cs.length cC (cs.set j x) ⟨wo.heap.size, 0, none⟩ 1 rfl rfl rfl rfl (Co.out.alloc _) (by simp) (by omega) (by simp; omega) ?_; intro a3 cap3 w3' hg3 hb3; have CZ := Lib.hid hg3; have RZ := Lib.hid ((Ro.out.alloc _).below hb3 hR7); have NZ := Lib.hid (grown_below (grown_alloc No.out _) hb3 s07); have SZ := Lib.hid (inW_snoc HSm2.out (x := 1) (by omega)); clear hg3 hb3)
        go_wp2_with fail
        refine (pick_any R (p4 + 1 + 1 + 1 + 1 + 1 + 1) 8 w3' RZ.out (by omega) (by omega) (by omega)).mono ?_
        rintro e wx ⟨v1, ⟨hv1, hv1'⟩, rfl, rx, gx⟩
        have Rx := Lib.hid rx
        have Nx := Lib.hid (grown_trans NZ.out gx)
        have Cx := Lib.hid (CZ.out.grownR gx hR7)
        clear rx gx
        go_wp2_with fail
        refine (pick_any R (p4 + 1 + 1 + 1 + 1 + 1 + 1 + 1) 14 wx Rx.out (by omega) (by omega) (by omega)).mono ?_
        rintro e wy ⟨v2, ⟨hv2, hv2'⟩, rfl, ry, gy⟩
        have Ny := Lib.hid (grown_trans Nx.out gy)
        have Cy := Lib.hid ((Cx.out.grownR gy hR7).base_le s07)
        have HK := Lib.hid (show 0 ≤ v1 + v2 / 13 * 9 ∧ v1 + v2 / 13 * 9 ≤ 16 by omega)
        clear ry gy Rx
        go_wp2
        go_ret2
        exact ⟨_, _, _, _, _, rfl, by omega, HK.out, SZ.out, Cy.out, Ny.out⟩
  · have hc0' : ¬ (0 : Int) < (cs.length : Int) := by omega
    go_wp2_with fail
    refine (odd_any R (p4 + 1) 12 w8 R8.out (by omega) (by omega) (by omega)).mono ?_
    rintro e wo ⟨bo, rfl, ro, go⟩
    have Ro := Lib.hid ro
    have No := Lib.hid (grown_trans N8.out go)
    have Co := Lib.hid (C8.out.grownR go hR7)
    have s7o : w7.heap.size ≤ wo.heap.size := Nat.le_trans s7w8 go.size
    clear ro go
    cases bo
    · go_wp2_with fail
      refine (pick_any R (p4 + 1 + 1) 8 wo Ro.out (by omega) (by omega) (by omega)).mono ?_
      rintro e wx ⟨v1, ⟨hv1, hv1'⟩, rfl, rx, gx⟩
      have Rx := Lib.hid rx
      have Nx := Lib.hid (grown_trans No.out gx)
      have Cx := Lib.hid (Co.out.grownR gx hR7)
      clear rx gx
      go_wp2_with fail
      refine (pick_any R (p4 + 1 + 1 + 1) 14 wx Rx.out (by omega) (by omega) (by omega)).mono ?_
      rintro e wy ⟨v2, ⟨hv2, hv2'⟩, rfl, ry, gy⟩
      have Ny := Lib.hid (grown_trans Nx.out gy)
      have Cy := Lib.hid ((Cx.out.grownR gy hR7).base_le s07)
      have HK := Lib.hid (show 0 ≤ v1 + v2 / 13 * 9 ∧ v1 + v2 / 13 * 9 ≤ 16 by omega)
      clear ry gy Rx
      go_wp2
      go_ret2
      exact ⟨_, _, _, _, _, rfl, by omega, HK.out, HSm.out, Cy.out, Ny.out⟩
    · go_wp2_with (at_builtin; refine wpList_append1 (.tmp 48) (.tmp 49) w7.heap.size aC cs.length cC cs ⟨wo.heap.size, 0, none⟩ 1 rfl rfl rfl rfl (Co.out.alloc _) (by simp) (by omega) (by simp; omega) ?_; intro a3 cap3 w3' hg3 hb3; have CZ := Lib.hid hg3; have RZ := Lib.hid ((Ro.out.alloc _).below hb3 hR7); have NZ := Lib.hid (grown_below (grown_alloc No.out _) hb3 s07); have SZ := Lib.hid (inW_snoc HSm.out (x := 1) (by omega)); clear hg3 hb3)
      go_wp2_with fail
      refine (pick_any R (p4 + 1 + 1) 8 w3' RZ.out (by omega) (by omega) (by omega)).mono ?_
      rintro e wx ⟨v1, ⟨hv1, hv1'⟩, rfl, rx, gx⟩
      have Rx := Lib.hid rx
      have Nx := Lib.hid (grown_trans NZ.out gx)
      have Cx := Lib.hid (CZ.out.grownR gx hR7)
      clear rx gx
      go_wp2_with fail
      refine (pick_any R (p4 + 1 + 1 + 1) 14 wx Rx.out (by omega) (by omega) (by omega)).mono ?_
      rintro e wy ⟨v2, ⟨hv2, hv2'⟩, rfl, ry, gy⟩
      have Ny := Lib.hid (grown_trans Nx.out gy)
      have Cy := Lib.hid ((Cx.out.grownR gy hR7).base_le s07)
      have HK := Lib.hid (show 0 ≤ v1 + v2 / 13 * 9 ∧ v1 + v2 / 13 * 9 ≤ 16 by omega)
      clear ry gy Rx
      go_wp2
      go_ret2
      exact ⟨_, _, _, _, _, rfl, by omega, HK.out, SZ.out, Cy.out, Ny.out⟩
set_option maxHeartbeats 1000000 in
theorem drawDespreadSums_any (a : Option Addr) (c : Nat) (ds : List Int) (w : World) (hx : Ints .u8 w w.heap.size a ds) (hw : ∀ n ∈ ds, isByte n) (hc : ds.length ≤ c) (hcm : c ≤ maxLen) :
    Calls Try.prog 27 #[.slice a ds.length c] w (ChP1 8001 w) := by
  have hl : ds.length ≤ maxLen := Nat.le_trans hc hcm
  go_enter Try.func27, Try.ntmps27
  go_wp2_with fail
  refine (open_any a c ds w hx hw hc hl hcm).mono ?_
  rintro e w1 ⟨rfl, r1, b1⟩
  have R1 := Lib.hid r1
  have B1 := Lib.hid b1
  clear hx hw hc hcm hl r1 b1
  go_wp2_with fail
  refine (chips_any w.heap.size 0 w1 R1.out (by omega)).mono ?_
  rintro e w2 ⟨xs, a2, n, c2, k, rfl, hn, hk, hin, hg, g2⟩
  obtain rfl : xs.length = n := hg.len
  have HP := Lib.hid (show ChP1 8001 w (.returned (.tuple #[.slice a2 xs.length c2, .int .i64 k])) w2 from ⟨xs, a2, c2, k, rfl, ⟨by omega, hk.2⟩, hin, lstW_grow hg (by omega), below_grownW B1.out g2 (Nat.le_refl _)⟩)
  clear hg g2 hn
  go_wp2
  go_ret2
  exact HP.out
set_option maxHeartbeats 1000000 in
theorem drawDespreadBits_any (a : Option Addr) (c : Nat) (ds : List Int) (w : World) (hx : Ints .u8 w w.heap.size a ds) (hw : ∀ n ∈ ds, isByte n) (hc : ds.length ≤ c) (hcm : c ≤ maxLen) :
    Calls Try.prog 29 #[.slice a ds.length c] w (ChP1 8001 w) := by
  have hl : ds.length ≤ maxLen := Nat.le_trans hc hcm
  go_enter Try.func29, Try.ntmps29
  go_wp2_with fail
  refine (open_any a c ds w hx hw hc hl hcm).mono ?_
  rintro e w1 ⟨rfl, r1, b1⟩
  have R1 := Lib.hid r1
  have B1 := Lib.hid b1
  clear hx hw hc hcm hl r1 b1
  go_wp2_with fail
  refine (chips_any w.heap.size 0 w1 R1.out (by omega)).mono ?_
  rintro e w2 ⟨xs, a2, n, c2, k, rfl, hn, hk, hin, hg, g2⟩
  obtain rfl : xs.length = n := hg.len
  have HP := Lib.hid (show ChP1 8001 w (.returned (.tuple #[.slice a2 xs.length c2, .int .i64 k])) w2 from ⟨xs, a2, c2, k, rfl, ⟨by omega, hk.2⟩, hin, lstW_grow hg (by omega), below_grownW B1.out g2 (Nat.le_refl _)⟩)
  clear hg g2 hn
  go_wp2
  go_ret2
  exact HP.out
theorem makeW33 (w : World) : (Instr.makeSlice 24 (.int .i64 33) (.int .i64 33)).run Try.prog w = .ok (.slice (some ⟨w.heap.size, 0, none⟩) 33 33) (w.alloc (.cells (madeCells #[.int .i64 0] 33) 3)) := makeX 33 (by omega) w
theorem growW_zeros (w : World) (base n : Nat) (hn : n ≤ 1000000) (hb : base ≤ w.heap.size) : Grow .i64 3 (w.alloc (.cells (madeCells #[.int .i64 0] n) 3)) base (some ⟨w.heap.size, 0, none⟩) n n (List.replicate n 0) := by
  refine ⟨by simp, .inr ⟨w.heap.size, n, _, rfl, hb, heap_alloc_last _ _, Nat.le_refl _, by unfold maxLen; omega, by rw [size_madeCells, Nat.mul_one], ?_⟩⟩
  rw [Nat.mul_one, List.take_of_length_le (by simp [size_madeCells])]
  apply List.ext_getElem
  · simp [size_madeCells]
  · intro i h1 h2
    simp [madeCells, Nat.mod_one]
set_option maxHeartbeats 2000000 in
theorem drawSpreadBits_any (a : Option Addr) (c : Nat) (ds : List Int) (w : World) (hx : Ints .u8 w w.heap.size a ds) (hw : ∀ n ∈ ds, isByte n) (hc : ds.length ≤ c) (hcm : c ≤ maxLen) :
    Calls Try.prog 19 #[.slice a ds.length c] w (ChP1 2 w) := by
  have hl : ds.length ≤ maxLen := Nat.le_trans hc hcm
  go_enter Try.func19, Try.ntmps19
  go_wp2_with fail
  refine (open_any a c ds w hx hw hc hl hcm).mono ?_
  rintro e w1 ⟨rfl, r1, b1⟩
  have h1 : w.heap.size < w1.heap.size := r1.lt
  have R1 := Lib.hid r1
  have B1 := Lib.hid b1
  clear hx hw hc hcm hl r1 b1
  go_wp2_with fail
  refine (bits_any w.heap.size 0 6 12 w1 R1.out (by omega) (by omega) (by omega) (by omega)).mono ?_
  rintro e w2 ⟨xs, ad2, n, c2, p2, rfl, hn, hs, gr2, r2, hp2, g2⟩
  have h2 : w.heap.size < w2.heap.size := r2.lt
  have R2 := Lib.hid r2
  have B2 := Lib.hid (below_grownW B1.out g2 (Nat.le_refl _))
  have HS2 : Hid (inW 2 xs) := Lib.hid fun x hx => by have := hs x hx; unfold small at this; omega
  have L2 := Lib.hid gr2
  obtain rfl : xs.length = n := gr2.len
  clear r2 g2 hs gr2
  go_wp2_with fail
  refine (odd_any w.heap.size p2 14 w2 R2.out (by omega) (by omega) (by omega)).mono ?_
  rintro e w3 ⟨b3, rfl, r3, g3⟩
  have h3 : w.heap.size < w3.heap.size := r3.lt
  have R3 := Lib.hid r3
  have B3 := Lib.hid (below_grownW B2.out g3 (Nat.le_refl _))
  have L3 := Lib.hid (L2.out.grownR g3 h1)
  clear r3 g3
  cases b3
  · go_wp2_with fail
    refine (pick_any w.heap.size (p2 + 1) 8 w3 R3.out (by omega) (by omega) (by omega)).mono ?_
    rintro e w4 ⟨v4, ⟨hv4, hv4'⟩, rfl, r4, g4⟩
    have R4 := Lib.hid r4
    have B4 := Lib.hid (below_grownW B3.out g4 (Nat.le_refl _))
    have L4 := Lib.hid (L3.out.grownR g4 h1)
    clear r4 g4
    go_wp2_with fail
    refine (pick_any w.heap.size (p2 + 1 + 1) 12 w4 R4.out (by omega) (by omega) (by omega)).mono ?_
    rintro e w5 ⟨v5, ⟨hv5, hv5'⟩, rfl, r5, g5⟩
    have R5 := Lib.hid r5
    have B5 := Lib.hid (below_grownW B4.out g5 (Nat.le_refl _))
    have L5 := Lib.hid (L4.out.grownR g5 h1)
    clear r5 g5
    go_wp2_with fail
    refine (pick_any w.heap.size (p2 + 1 + 1 + 1) 12 w5 R5.out (by omega) (by omega) (by omega)).mono ?_
    rintro e w6 ⟨v6, ⟨hv6, hv6'⟩, rfl, r6, g6⟩
    have B6 := Lib.hid (below_grownW B5.out g6 (Nat.le_refl _))
    have L6 := Lib.hid (L5.out.grownR g6 h1)
    have HK := Lib.hid (show -1 ≤ v4 - v5 / 11 + v6 / 11 * 9 ∧ v4 - v5 / 11 + v6 / 11 * 9 ≤ 16 by omega)
    clear r6 g6
    go_wp2
    go_ret2
    exact ⟨xs, _, _, _, rfl, HK.out, HS2.out, lstW_grow L6.out (by omega), B6.out⟩
  · have hmk := makeW33
    have L3' := Lib.hid (growW_zeros w3 w3.heap.size 33 (by omega) (Nat.le_refl _))
    have R3' := Lib.hid (R3.out.alloc (.cells (madeCells #[.int .i64 0] 33) 3))
    have B3' := Lib.hid (B3.out.alloc (Nat.le_of_lt h3) (.cells (madeCells #[.int .i64 0] 33) 3))
    have HS3 : Hid (inW 2 (List.replicate 33 0)) := Lib.hid fun x hx => by have := (List.mem_replicate.1 hx).2; omega
    go_wp2_with fail
    clear hmk
    generalize w3.alloc (.cells (madeCells #[.int .i64 0] 33) 3) = W3 at *
    refine (pick_any w.heap.size (p2 + 1) 8 W3 R3'.out (by omega) (by omega) (by omega)).mono ?_
    rintro e w4 ⟨v4, ⟨hv4, hv4'⟩, rfl, r4, g4⟩
    have R4 := Lib.hid r4
    have B4 := Lib.hid (below_grownW B3'.out g4 (Nat.le_refl _))
    have L4 := Lib.hid (L3'.out.grownR g4 h3)
    clear r4 g4
    go_wp2_with fail
    refine (pick_any w.heap.size (p2 + 1 + 1) 12 w4 R4.out (by omega) (by omega) (by omega)).mono ?_
    rintro e w5 ⟨v5, ⟨hv5, hv5'⟩, rfl, r5, g5⟩
    have R5 := Lib.hid r5
    have B5 := Lib.hid (below_grownW B4.out g5 (Nat.le_refl _))
    have L5 := Lib.hid (L4.out.grownR g5 h3)
    clear r5 g5
    go_wp2_with fail
    refine (pick_any w.heap.size (p2 + 1 + 1 + 1) 12 w5 R5.out (by omega) (by omega) (by omega)).mono ?_
    rintro e w6 ⟨v6, ⟨hv6, hv6'⟩, rfl, r6, g6⟩
    have B6 := Lib.hid (below_grownW B5.out g6 (Nat.le_refl _))
    have L6 := Lib.hid (L5.out.grownR g6 h3)
    have HK := Lib.hid (show -1 ≤ v4 - v5 / 11 + v6 / 11 * 9 ∧ v4 - v5 / 11 + v6 / 11 * 9 ≤ 16 by omega)
    clear r6 g6
    go_wp2
    go_ret2
    exact ⟨List.replicate 33 0, _, _, _, rfl, HK.out, HS3.out, lstW_grow L6.out (by omega), B6.out⟩
end Go.Proofs.Ytnnknfpkbhcghaa
