/-
  What the program's CheckBits answers, for every list and number.
-/
import Derived.Test.YtflplihhakepfaaDoorRems
import Derived.Test.YtflplihhakepfaaDoorOne
import Derived.Test.YtflplihhakepfaaDoorLawMath
namespace Go.Proofs.YtflplihhakepfaaDoor
open Go.RowKit

/-- The number of a list of bits. -/
def numOf (xs : List Int) : Nat := numF (bitsF xs xs.length) xs.length
/-- The check bits, and what is answered for other arguments. -/
def chk (g : Int) (xs : List Int) : List Int := digits (tab g.toNat (deg g) (numOf xs)) (deg g)
def chkOk (g : Int) (xs : List Int) : Bool := bitsOk xs && genOk g
def chkOr (g : Int) (xs : List Int) : List Int := if chkOk g xs then chk g xs else []
theorem chk_length (g : Int) (xs : List Int) : (chk g xs).length = deg g := digits_length _ _

set_option maxHeartbeats 2000000 in
theorem checkBits_any (a : Option Addr) (c B : Nat) (xs : List Int) (g : Int) (w : World) (hx : Ints .i64 w B a xs) (hB : B ≤ w.heap.size) :
    Calls Tryd.prog 44 #[.slice a xs.length c, .int .i64 g] w (ListPost (chkOr g xs) w) := by
  have hv := fun W => genValid_any g W
  have hp := packBits_any a c B xs w hx hB
  go_enter Tryd.func44, Tryd.ntmps44
  go_wp2_with fail
  refine hp.mono ?_
  clear hp hx hB
  rintro e w1 ⟨cs, P, rfl, hpk, hs, h1, hbel⟩
  have HP := Lib.hid hpk
  have HS := Lib.hid hs
  have H1 := Lib.hid h1
  have HB := Lib.hid hbel
  clear hpk hs h1 hbel
  cases hb : bitsOk xs
  · have HE := Lib.hid (show chkOr g xs = [] by simp [chkOr, chkOk, hb])
    clear hv
    go_wp2_with (refine store_pack (.tmp 5) (.tmp 11) w1.heap.size cs _ (heap_alloc_last _ _) HS.out rfl H1.out rfl rfl rfl rfl ?_)
    go_ret
    rw [HE.out]
    exact listPost_nil (below_setRow (HB.out.alloc HB.out.size _) HB.out.size _)
  · cases hg : genOk g
    · have HE := Lib.hid (show chkOr g xs = [] by simp [chkOr, chkOk, hb, hg])
      rw [hg] at hv
      have HV := Lib.hid hv
      clear hv
      go_wp2_with (first | (refine store_pack (.tmp 5) (.tmp 11) w1.heap.size cs _ (heap_alloc_last _ _) HS.out rfl H1.out rfl rfl rfl rfl ?_) | (go_at_call 49; refine (HV.out _).mono ?_; rintro e w' ⟨rfl, rfl⟩))
      go_ret
      rw [HE.out]
      exact listPost_nil (below_setRow (HB.out.alloc HB.out.size _) HB.out.size _)
    · obtain ⟨hp1, hp2⟩ := HP.out hb
      have HE := Lib.hid (show chkOr g xs = chk g xs by simp [chkOr, chkOk, hb, hg])
      rw [hg] at hv
      have HV := Lib.hid hv
      have HG := Lib.hid hg
      have HPk := Lib.hid hp1
      have HPf := Lib.hid hp2
      have hxl := bitsOk_length hb
      have hd := (deg_lt hg).2
      have hpd := pow_deg hg
      have htl := tab_lt hg (numOf xs)
      have htl2 : tab g.toNat (deg g) (numOf xs) < 65536 := by omega
      clear hv HP hp1 hp2 hb hpd htl
      go_wp2_with (first | (refine store_pack (.tmp 5) (.tmp 11) w1.heap.size cs _ (heap_alloc_last _ _) HS.out rfl H1.out rfl rfl rfl rfl ?_; rw [World.setRow_alloc_new]) | (go_at_call 49; refine (HV.out _).mono ?_; rintro e w' ⟨rfl, rfl⟩))
      refine (tableOf_any g _ HG.out).mono ?_
      rintro e w2 ⟨ts, rfl, ht, hb2⟩
      have HT := Lib.hid ht
      have HA := Lib.hid (after1 hb2)
      clear ht hb2
      go_wp2_with (refine store_tab (.tmp 7) (.tmp 21) w2.heap.size ts _ (heap_alloc_last _ _) HT.out.1 rfl (tab_one HT.out) rfl rfl rfl rfl ?_; rw [World.setRow_alloc_new])
      have hlt : w1.heap.size < w2.heap.size := HA.out.2.1
      have k1 : Hid ((w2.alloc (.cells ts 69)).heap[w1.heap.size]? = some (.cells cs 46 (0, 0))) := (Below.heap_alloc _ _ _ hlt).trans HA.out.1
      have k2 : Hid ((w2.alloc (.cells ts 69)).heap[w2.heap.size]? = some (.cells ts 69 (0, 0))) := heap_alloc_last _ _
      have kb : Hid (Below w.heap.size w (w2.alloc (.cells ts 69))) := by
        have h2 := HB.out.size
        exact (HB.out.trans (HA.out.2.2.mono h2)).alloc (by omega) _
      have kl : w2.heap.size < (w2.alloc (.cells ts 69)).heap.size := by simp
      generalize w2.alloc (.cells ts 69) = W at *
      have cd : (W.drew).cell? ⟨w2.heap.size, 0, none⟩ = some (.int .i64 (deg g)) := by
        show W.cell? _ = _
        rw [cell_of_row _ _ _ _ _ _ k2.out, HT.out.2.1]
      have hr := remainderOf_any g w2.heap.size xs.length ts cs P (bitsF xs xs.length) W.drew HG.out k2.out HT.out HPk.out HPf.out hxl
      have HR := Lib.hid hr
      clear hr
      refine wp_region_any (by kernel_rfl) ?_
      change wpAny _ _ _ _ _ _ _ (World.drew _)
      refine wpAny_take (i := 2) (v := ?v2) rfl (by kernel_rfl) (by kernel_rfl) (by kernel_rfl) (fun _ _ _ h => h) (Or.inl ⟨by rfl, ?h2⟩) ?_
      case h2 => intro w; go_simp; try with_reducible rfl
      refine wpAny_ready (rs := [0, 3]) (by kernel_rfl) (by simp) (AllReady.cons rfl (fun K hK => ?_) (AllReady.cons rfl (fun K hK => ?_) AllReady.nil))
      · refine step_load_pack (.tmp 5) w1.heap.size cs k1.out HS.out rfl rfl rfl (hK _ _ ?_)
        clear hK K
        refine wpAny_ready (rs := [1, 3]) (by kernel_rfl) (by simp) (AllReady.cons rfl (fun K hK => ?_) (AllReady.cons rfl (fun K hK => ?_) AllReady.nil))
        · go_simp
          refine HR.out.mono ?_
          rintro e w3 ⟨rfl, b3⟩
          have B3 := Lib.hid (Below.next kb.out.drew (Nat.le_refl _) b3)
          have hcd3 : w3.cell? ⟨w2.heap.size, 0, none⟩ = some (.int .i64 (deg g)) := (b3.cell (p := ⟨w2.heap.size, 0, none⟩) kl).trans cd
          clear b3
          go_simp
          refine hK _ _ ?_
          clear hK K
          refine wpAny_ready (rs := [3]) (by kernel_rfl) (by simp) (AllReady.cons rfl (fun K hK => ?_) AllReady.nil)
          go_simp
          refine hK _ _ ?_
          clear hK K
          refine wpAny_ready (rs := [4]) (by kernel_rfl) (by simp) (AllReady.cons rfl (fun K hK => ?_) AllReady.nil)
          go_simp
          refine (digitsOf_any (tab g.toNat (deg g) (numOf xs)) (deg g) w3 htl2 hd).mono ?_
          rintro e w4 ⟨rfl, r4, b4⟩
          have R4 := Lib.hid r4
          have B4 := Lib.hid (Below.next B3.out (Nat.le_refl _) b4)
          clear r4 b4
          go_simp
          refine hK _ _ ?_
          clear hK K
          refine wpAny_ready (rs := [5]) (by kernel_rfl) (by simp) (AllReady.cons rfl (fun K hK => ?_) AllReady.nil)
          go_simp
          refine hK _ _ ?_
          clear hK K
          refine wpAny_done (by kernel_rfl) ?_ _
          go_wp2
          go_ret
          rw [HE.out]
          exact listPost_row (xs := chk g xs) R4.out (chk_length g xs).symm (by have := B3.out.size; omega) B4.out
        · go_simp
          refine hK _ _ ?_
          clear hK K
          refine wpAny_ready (rs := [1]) (by kernel_rfl) (by simp) (AllReady.cons rfl (fun K hK => ?_) AllReady.nil)
          go_simp
          refine HR.out.mono ?_
          rintro e w3 ⟨rfl, b3⟩
          have B3 := Lib.hid (Below.next kb.out.drew (Nat.le_refl _) b3)
          have hcd3 : w3.cell? ⟨w2.heap.size, 0, none⟩ = some (.int .i64 (deg g)) := (b3.cell (p := ⟨w2.heap.size, 0, none⟩) kl).trans cd
          clear b3
          go_simp
          refine hK _ _ ?_
          clear hK K
          refine wpAny_ready (rs := [4]) (by kernel_rfl) (by simp) (AllReady.cons rfl (fun K hK => ?_) AllReady.nil)
          go_simp
          refine (digitsOf_any (tab g.toNat (deg g) (numOf xs)) (deg g) w3 htl2 hd).mono ?_
          rintro e w4 ⟨rfl, r4, b4⟩
          have R4 := Lib.hid r4
          have B4 := Lib.hid (Below.next B3.out (Nat.le_refl _) b4)
          clear r4 b4
          go_simp
          refine hK _ _ ?_
          clear hK K
          refine wpAny_ready (rs := [5]) (by kernel_rfl) (by simp) (AllReady.cons rfl (fun K hK => ?_) AllReady.nil)
          go_simp
          refine hK _ _ ?_
          clear hK K
          refine wpAny_done (by kernel_rfl) ?_ _
          go_wp2
          go_ret
          rw [HE.out]
          exact listPost_row (xs := chk g xs) R4.out (chk_length g xs).symm (by have := B3.out.size; omega) B4.out
      · go_simp
        refine hK _ _ ?_
        clear hK K
        refine wpAny_ready (rs := [0]) (by kernel_rfl) (by simp) (AllReady.cons rfl (fun K hK => ?_) AllReady.nil)
        refine step_load_pack (.tmp 5) w1.heap.size cs k1.out HS.out rfl rfl rfl (hK _ _ ?_)
        clear hK K
        refine wpAny_ready (rs := [1]) (by kernel_rfl) (by simp) (AllReady.cons rfl (fun K hK => ?_) AllReady.nil)
        go_simp
        refine HR.out.mono ?_
        rintro e w3 ⟨rfl, b3⟩
        have B3 := Lib.hid (Below.next kb.out.drew (Nat.le_refl _) b3)
        have hcd3 : w3.cell? ⟨w2.heap.size, 0, none⟩ = some (.int .i64 (deg g)) := (b3.cell (p := ⟨w2.heap.size, 0, none⟩) kl).trans cd
        clear b3
        go_simp
        refine hK _ _ ?_
        clear hK K
        refine wpAny_ready (rs := [4]) (by kernel_rfl) (by simp) (AllReady.cons rfl (fun K hK => ?_) AllReady.nil)
        go_simp
        refine (digitsOf_any (tab g.toNat (deg g) (numOf xs)) (deg g) w3 htl2 hd).mono ?_
        rintro e w4 ⟨rfl, r4, b4⟩
        have R4 := Lib.hid r4
        have B4 := Lib.hid (Below.next B3.out (Nat.le_refl _) b4)
        clear r4 b4
        go_simp
        refine hK _ _ ?_
        clear hK K
        refine wpAny_ready (rs := [5]) (by kernel_rfl) (by simp) (AllReady.cons rfl (fun K hK => ?_) AllReady.nil)
        go_simp
        refine hK _ _ ?_
        clear hK K
        refine wpAny_done (by kernel_rfl) ?_ _
        go_wp2
        go_ret
        rw [HE.out]
        exact listPost_row (xs := chk g xs) R4.out (chk_length g xs).symm (by have := B3.out.size; omega) B4.out
end Go.Proofs.YtflplihhakepfaaDoor
