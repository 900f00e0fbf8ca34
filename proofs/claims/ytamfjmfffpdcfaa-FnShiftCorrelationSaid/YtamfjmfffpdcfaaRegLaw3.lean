/-
  The law of shifted registers, walked: it returns true for every code, and writes into nothing that was there.
-/
import Derived.Test.YtamfjmfffpdcfaaRegLaw1
import Derived.Deep.RegionWith
namespace Go.Proofs.Ytamfjmfffpdcfaa
open Go.RowKit

/-- A part of the outputs. -/
def partOf (S k : Nat) : List Int := ((outs 19 S 30).drop k).take 15
def corr (S k : Nat) : Bool := distOr ((outs 19 S 30).take 15) (partOf S k) == 8
theorem corr_all : (List.range 15).all (fun S => (List.range 14).all fun k => corr (S + 1) (k + 1)) = true := by decide +kernel
theorem corr_eq {S k : Nat} (h1 : 1 ≤ S) (h2 : S ≤ 15) (h3 : 1 ≤ k) (h4 : k < 15) : distOr ((outs 19 S 30).take 15) (partOf S k) = 8 := by
  have h := List.all_eq_true.1 (List.all_eq_true.1 corr_all (S - 1) (List.mem_range.2 (by omega))) (k - 1) (List.mem_range.2 (by omega))
  rw [show S - 1 + 1 = S by omega, show k - 1 + 1 = k by omega] at h
  exact eq_of_beq h
theorem Ints.dropR {k : IntKind} {w : World} {B b h : Nat} {xs : List Int} (hx : Ints k w B (some ⟨b, 0, none⟩) xs) : Ints k w B (some ⟨b, h, none⟩) (xs.drop h) := fun hne => by
  obtain ⟨b', off, e, hb, hc⟩ := hx (fun e => hne (by rw [e]; simp))
  injection e with e
  injection e with e1 e2
  subst e1 e2
  refine ⟨b, h, rfl, hb, fun i hi => ?_⟩
  have := hc (h + i) (by simp at hi; omega)
  rw [Nat.zero_add] at this
  rw [this]
  simp [el]

theorem wrap_small {k : Nat} (h : k < 15) : wrap64 ((k : Int) + 15) = (k : Int) + 15 := by simp only [wrap64]; omega

set_option maxHeartbeats 2000000 in
theorem walkShiftCorrelation (a : Option Addr) (c : Nat) (ds : List Int) (w : World) (hx : Ints .u8 w w.heap.size a ds) (hw : ∀ n ∈ ds, (Lit.int .u8 n).wf = true) (hc : ds.length ≤ c) (hcm : c ≤ maxLen) :
    Calls Try.prog 8 #[.slice a ds.length c] w fun e w' => e = .returned (.bool true) ∧ Below w.heap.size w w' := by
  have hb := isByte_of_wf hw
  clear hw
  by_cases hl : ds.length ≤ 1048576
  · go_enter Try.func8, Try.ntmps8
    go_wp2_with fail
    refine (drawShiftPeriod_any a c ds w hx hb hc hcm).mono ?_
    rintro e w1 ⟨g, s, hg, ⟨hs0, hs1⟩, rfl, b1⟩
    have B1 := Lib.hid b1
    clear hx hb hc hcm b1 hg
    obtain ⟨S, hS⟩ : ∃ S : Nat, s = (S : Int) := ⟨s.toNat, by omega⟩
    subst hS
    obtain ⟨Z, hZ⟩ : ∃ Z : Nat, Z = 1 + S % 15 := ⟨_, rfl⟩
    have hZ' : (1 + (S : Int) % 15) = (Z : Int) := by omega
    have hZ1 : 1 ≤ Z := by omega
    have hZ2 : Z ≤ 15 := by omega
    have hO := outs19 hZ1 hZ2 (n := 30) (by omega)
    rw [show ((30 : Nat) : Int) = 30 from rfl] at hO
    have HO := Lib.hid hO
    have HLen := Lib.hid (outs_length 19 Z 30)
    clear hZ hO
    go_wp2_with fail
    refine (shiftBits_any 19 (Z : Int) 30 w1).mono ?_
    rw [HO.out]
    rintro e w2 ⟨v, cv, rfl, ⟨hcv1, hcv2⟩, o2, b2⟩
    rw [HLen.out] at hcv1 ⊢
    obtain ⟨bb, _, hv, _⟩ := o2 (by intro e; have := HLen.out; rw [e] at this; cases this)
    subst hv
    have X2 := Lib.hid (own_of_list o2).ints
    have B2 := Lib.hid (Below.next B1.out (Nat.le_refl _) b2)
    clear o2 b2 B1
    have hSl : (outs 19 Z 30).length ≤ 1048576 := by rw [HLen.out]; omega
    have HSl := Lib.hid hSl
    clear hSl
    have z3 : decide (outs 19 Z 30 = outs 19 Z 30) = true := by simp
    go_wp2_with fail
    refine (specShiftBits_any 19 (Z : Int) 30 w2).mono ?_
    rw [HO.out]
    rintro e w3 ⟨v3, cv3, rfl, _, o3, b3⟩
    have Y3 := Lib.hid (own_of_list o3).ints
    have X3 := Lib.hid (X2.out.next b3)
    have B3 := Lib.hid (Below.next B2.out (Nat.le_refl _) b3)
    clear o3 b3 X2 B2
    have HSame := Lib.hid (sameInts_any (some ⟨bb, 0, none⟩) v3 cv cv3 w3.heap.size w3.heap.size (outs 19 Z 30) (outs 19 Z 30) w3 X3.out Y3.out HSl.out)
    rw [HLen.out] at HSame ⊢
    go_wp2_with fail
    refine HSame.out.mono ?_
    rintro e w4 ⟨rfl, n4, rfl⟩
    have B4 := Lib.hid (below_drewN B3.out n4)
    have X4 : Hid (Ints .i64 (w3.drewN n4) (w3.drewN n4).heap.size (some ⟨bb, 0, none⟩) (outs 19 Z 30)) := X3.out
    clear HSame B3 X3 Y3 z3
    generalize w3.drewN n4 = w5 at *
    clear hcv2
    go_wp2
    go_loopw [7] (fun i wr => ∃ k : Nat, 1 ≤ k ∧ k ≤ 15 ∧ i = .int .i64 k ∧ Ints .i64 wr wr.heap.size (some ⟨bb, 0, none⟩) (outs 19 Z 30) ∧ Below w.heap.size w wr) (fun i _ => 15 - (intOf i).toNat)
    case atStart => exact ⟨1, Nat.le_refl _, by omega, rfl, X4.out, B4.out⟩
    case round =>
      obtain ⟨k, hk1, hk, rfl, hxs, hbel⟩ := hrel
      have HXS := Lib.hid hxs
      have HBE := Lib.hid hbel
      clear hxs hbel X4 B4
      by_cases hlt : k < 15
      · have hH := hamming_any (some ⟨bb, 0, none⟩) (some ⟨bb, k, none⟩) cv (cv - k) wr.heap.size wr.heap.size ((outs 19 Z 30).take 15) (partOf Z k) wr.drew (Ints.take (w := wr) HXS.out) (Ints.take (w := wr) (Ints.dropR HXS.out)) (Nat.le_refl _) (Nat.le_refl _)
        rw [corr_eq hZ1 hZ2 hk1 hlt, show ((outs 19 Z 30).take 15).length = 15 by rw [List.length_take, HLen.out]; rfl, show (partOf Z k).length = 15 by rw [partOf, List.length_take, List.length_drop, HLen.out]; omega] at hH
        have HH := Lib.hid hH
        clear hH
        have hc15 : (15 : Int) ≤ (cv : Int) := by omega
        have hk15 : (k : Int) + 15 ≤ (cv : Int) := by omega
        have HWK := Lib.hid (wrap_small (k := k) (by omega))
        have hk00 : (0 : Int) ≤ (k : Int) := by omega
        have hkk : (k : Int) ≤ (k : Int) + 15 := by omega
        go_wp2
        refine wp_region_any (by kernel_rfl) ?_
        change wpAny _ _ _ _ _ _ _ (World.drew _)
        refine wpAny_take (i := 0) (v := ?v0) rfl (by kernel_rfl) (by kernel_rfl) (by kernel_rfl) (fun _ _ _ h => h) (Or.inl ⟨by kernel_rfl, ?h0⟩) ?_
        case h0 => intro w; go_simp; try with_reducible rfl
        go_simp
        refine wpAny_take (i := 1) (v := ?v1) rfl (by kernel_rfl) (by kernel_rfl) (by kernel_rfl) (fun _ _ _ h => h) (Or.inl ⟨by kernel_rfl, ?h1⟩) ?_
        case h1 => intro w; go_simp; try with_reducible rfl
        go_simp
        refine wpAny_take (i := 2) (v := ?v2) rfl (by kernel_rfl) (by kernel_rfl) (by kernel_rfl) (fun _ _ _ h => h) (Or.inl ⟨by kernel_rfl, ?h2⟩) ?_
        case h2 => intro w; go_simp; try with_reducible rfl
        go_simp
        refine wpAny_take (i := 3) (v := ?v3) rfl (by kernel_rfl) (by kernel_rfl) (by kernel_rfl) (fun _ _ _ h => h) (Or.inl ⟨by kernel_rfl, ?h3⟩) ?_
        case h3 => intro w; go_simp; try with_reducible rfl
        go_simp
        refine wpAny_take (i := 4) (v := ?v4) rfl (by kernel_rfl) (by kernel_rfl) (by kernel_rfl) (fun _ _ _ h => h) (Or.inl ⟨by kernel_rfl, ?h4⟩) ?_
        case h4 => intro w; go_simp; try with_reducible rfl
        go_simp
        have hwk := HWK.out
        have hwk2 : IntKind.i64.wrap ((k : Int) + 15) = (k : Int) + 15 := (i64_wrap _).trans hwk
        refine wpAny_take (i := 5) (v := ?v5) rfl (by kernel_rfl) (by kernel_rfl) (by kernel_rfl) (fun _ _ _ h => h) (Or.inl ⟨by kernel_rfl, ?h5⟩) ?_
        case h5 => intro w; go_simp; try with_reducible rfl
        go_simp
        clear hwk hwk2
        refine wpAny_take (i := 6) (v := ?v6) rfl (by kernel_rfl) (by kernel_rfl) (by kernel_rfl) (fun _ _ _ h => h) (Or.inl ⟨by kernel_rfl, ?h6⟩) ?_
        case h6 => intro w; go_simp; try with_reducible rfl
        go_simp
        rw [if_neg (show ¬ cv = k by omega), show ((k : Int) + 15).toNat - k = 15 by omega]
        refine wpAny_ready (rs := [7]) (by kernel_rfl) (by simp) (AllReady.cons rfl (fun K hK => ?_) AllReady.nil)
        go_simp
        refine HH.out.mono ?_
        rintro e w6 ⟨rfl, b6⟩
        have B6 := Lib.hid (Below.next (w' := wr.drew) (below_drewN HBE.out 1) (Nat.le_refl _) b6)
        have X6 := Lib.hid (Ints.next (w := wr.drew) HXS.out b6)
        clear b6
        go_simp
        refine hK _ _ ?_
        clear hK K
        refine wpAny_ready (rs := [8]) (by kernel_rfl) (by simp) (AllReady.cons rfl (fun K hK => ?_) AllReady.nil)
        go_simp
        refine hK _ _ ?_
        clear hK K
        refine wpAny_done (by kernel_rfl) ?_ _
        go_wp2
        go_roundw
        case rel => exact ⟨k + 1, by omega, by omega, by go_num, X6.out, B6.out⟩
        case measure => simp [intOf]; omega
      · obtain rfl : k = 15 := by omega
        go_wp2
        go_ret
        exact ⟨rfl, HBE.out⟩
  · go_enter Try.func8, Try.ntmps8
    go_wp2
    go_ret
    exact ⟨rfl, Below.refl _ _⟩
end Go.Proofs.Ytamfjmfffpdcfaa
