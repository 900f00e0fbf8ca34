/-
  What the program's BurstDetected answers, for all arguments. Condition: each slice has room for its list, as every slice has.
-/
import Derived.Test.YtnmpeeailljdaaaPass
namespace Go.Proofs.Ytnmpeeailljdaaa
open Go.RowKit

/-- What the burst leads to. -/
def burstIn (g : Int) (xs : List Int) (i : Int) (bs : List Int) : Bool := passes g xs && bitsOk bs && decide (0 ≤ i) && decide (i ≤ (xs.length : Int) - (bs.length : Int))
def burstB (g : Int) (xs : List Int) (i : Int) (bs : List Int) : Bool := burstIn g xs i bs && !passes g (sumBits xs (damage xs.length i.toNat bs))
theorem damage_ok {n i : Nat} {bs : List Int} (hb : bitsOk bs = true) (h : i + bs.length ≤ n) (hn : n ≤ 1024) : bitsOk (damage n i bs) = true := by
  unfold damage
  have := bitsOk_length hb
  refine bitsOk_append (bitsOk_append (zeros_ok (by omega)) hb (by rw [zeros_length]; omega)) (zeros_ok (by omega)) ?_
  rw [List.length_append, zeros_length, zeros_length]; omega
theorem madeCells_zeros (n : Nat) : madeCells #[Value.int .i64 0] n = ((zeros n).map (Value.int .i64)).toArray := by
  apply Array.ext'
  apply List.ext_getElem
  · simp [madeCells, zeros]
  · intro j h1 h2
    simp [madeCells, zeros, Nat.mod_one]
theorem splice_damage {n i : Nat} {bs : List Int} (h : i + bs.length ≤ n) : splice ((zeros n).map (Value.int .i64)) i (bs.map (Value.int .i64)) = (damage n i bs).map (Value.int .i64) := by
  simp only [splice, damage, zeros, List.map_append, List.map_replicate, List.take_replicate, List.drop_replicate, List.length_map, List.append_assoc]
  rw [show min i n = i by omega, show n - (i + bs.length) = n - i - bs.length by omega]
theorem ints_of_cells {w : World} {b : Nat} {t : TypeId} {xs : List Int} (h : w.heap[b]? = some (.cells (xs.map (Value.int .i64)).toArray t (0, 0))) : Ints .i64 w w.heap.size (some ⟨b, 0, none⟩) xs := fun _ =>
  ⟨b, 0, rfl, (Array.getElem?_eq_some_iff.1 h).1, fun i hi => by
    rw [cell_of_row _ _ _ _ _ _ h]
    simp [el, hi]⟩
theorem infoInt1 : (Try.prog.info? 3).map (·.size) = some 1 := by kernel_rfl

set_option maxHeartbeats 1000000 in
theorem burst_any (a a' : Option Addr) (c c' : Nat) (xs bs : List Int) (g i : Int) (w : World) (hx : Ints .i64 w w.heap.size a xs) (hy : Ints .i64 w w.heap.size a' bs) (hc : xs.length ≤ c) (hcm : c ≤ maxLen) :
    Calls Try.prog 37 #[.slice a xs.length c, .int .i64 g, .int .i64 i, .slice a' bs.length c'] w fun e w' => e = .returned (.bool (burstB g xs i bs)) ∧ Below w.heap.size w w' := by
  have hp := checkPasses_any a c xs g w hx hc hcm
  have HX := Lib.hid hx
  have HY := Lib.hid hy
  clear hx hy hc hcm
  cases h1 : passes g xs
  · rw [h1] at hp
    have HE := Lib.hid (show burstB g xs i bs = false by simp [burstB, burstIn, h1])
    have HP := Lib.hid hp
    clear hp h1
    go_enter Try.func37, Try.ntmps37
    go_wp2_with fail
    refine HP.out.mono ?_
    rintro e w1 ⟨rfl, b1⟩
    have HB := Lib.hid b1
    clear b1
    go_wp2
    go_ret
    exact ⟨ret_bool HE.out.symm, HB.out⟩
  · obtain ⟨p1, p2, p3, p4⟩ := passes_parts h1
    rw [h1] at hp
    have HP := Lib.hid hp
    clear hp
    have hxl := bitsOk_length p1
    have hv := fun (W : World) (hW : Ints .i64 W W.heap.size a' bs) => bitsValid_any a' c' W.heap.size bs W hW (Nat.le_refl _)
    cases h2 : bitsOk bs
    · rw [h2] at hv
      have HE := Lib.hid (show burstB g xs i bs = false by simp [burstB, burstIn, h2])
      have HV := Lib.hid hv
      clear hv h1 h2 p1 p2 p3 p4
      go_enter Try.func37, Try.ntmps37
      go_wp2_with fail
      refine HP.out.mono ?_
      rintro e w1 ⟨rfl, b1⟩
      have HB := Lib.hid b1
      have HY1 := Lib.hid (HY.out.next b1)
      clear b1
      go_wp2_with fail
      refine (HV.out w1 HY1.out).mono ?_
      rintro e w2 ⟨rfl, b2⟩
      have HB2 := Lib.hid (Below.next HB.out (Nat.le_refl _) b2)
      clear b2
      go_wp2
      go_ret
      exact ⟨ret_bool HE.out.symm, HB2.out⟩
    · rw [h2] at hv
      have HV := Lib.hid hv
      have hbl := bitsOk_length h2
      clear hv
      by_cases h3 : 0 ≤ i ∧ i ≤ (xs.length : Int) - (bs.length : Int)
      · obtain ⟨k, rfl⟩ := Int.eq_ofNat_of_zero_le h3.1
        have hk : k + bs.length ≤ xs.length := by omega
        have HE : Hid (burstB g xs (k : Int) bs = !passes g (sumBits xs (damage xs.length k bs))) := by
          show _ = _
          simp [burstB, burstIn, h1, h2, h3]
        have hd1 : 1 ≤ deg g := (deg_lt p2).1
        have hDok := damage_ok h2 hk hxl
        have HPair : Hid (sumOr xs (damage xs.length k bs) = sumBits xs (damage xs.length k bs)) := by
          show _ = _
          simp [sumOr, pairOk, p1, hDok, damage_length hk]
        have hn0 : ¬ ((k : Int) < 0) := by omega
        have hn1 : ¬ ((xs.length : Int) - (bs.length : Int) < (k : Int)) := by omega
        have hpos : 1 ≤ xs.length := by omega
        have HDl := Lib.hid (damage_length hk)
        have hkl : k ≤ xs.length := by omega
        clear h1 h2 h3 p1 p2 p3 p4 hDok hd1
        have hmk := run_make_row' (P := Try.prog) 28 3 (.int .i64 0) 8 Try.underlying28 Try.infoInt rfl .i64 .i64 xs.length (by omega) (by omega)
        have HMk := Lib.hid hmk
        clear hmk
        go_enter Try.func37, Try.ntmps37
        go_wp2_with fail
        refine HP.out.mono ?_
        rintro e w1 ⟨rfl, b1⟩
        have HB := Lib.hid b1
        have HY1 := Lib.hid (HY.out.next b1)
        have HX1 := Lib.hid (HX.out.next b1)
        clear b1
        go_wp2_with fail
        refine (HV.out w1 HY1.out).mono ?_
        rintro e w2 ⟨rfl, b2⟩
        have HB2 := Lib.hid (Below.next HB.out (Nat.le_refl _) b2)
        have HY2 := Lib.hid (HY1.out.next b2)
        have HX2 := Lib.hid (HX1.out.next b2)
        have hs2 : w.heap.size ≤ w2.heap.size := (Below.next HB.out (Nat.le_refl _) b2).size
        clear b2
        have hmk := HMk.out
        have HAl : Hid (Below w2.heap.size w2 (w2.alloc (.cells (madeCells #[.int .i64 0] xs.length) 3))) := (Below.refl _ _).alloc (Nat.le_refl _) _
        obtain ⟨cs, hcs⟩ : ∃ cs : List Value, cs = bs.map (Value.int .i64) := ⟨_, rfl⟩
        have hcl : cs.length = bs.length := by rw [hcs]; simp
        have hone : ∀ v ∈ cs, v.oneCell' = true := by rw [hcs]; exact ints_oneCell _ _
        have HOne := Lib.hid hone
        have HSp : Hid (splice ((zeros xs.length).map (Value.int .i64)) k cs = (damage xs.length k bs).map (Value.int .i64)) := by rw [hcs]; exact splice_damage hk
        have HCl := Lib.hid hcl
        have HSrc : Hid (∀ (W : World) ad, Ints .i64 W w2.heap.size (some ad) bs → ∀ j v, cs[j]? = some v → W.cell? (ad.add j) = some v) := fun W ad hW j v hj => by
          rw [hcs] at hj
          have hjl : j < bs.length := by have := (List.getElem?_eq_some_iff.1 hj).1; simpa using this
          obtain ⟨b, off, e, _, hc⟩ := hW.at_ hjl
          injection e with e
          subst e
          have hadd : (⟨b, off, none⟩ : Addr).add j = ⟨b, off + j, none⟩ := by unfold Addr.add; split <;> simp_all
          rw [hadd, hc]
          simp [hjl] at hj
          rw [← hj, el_lt hjl]
        clear hcs hcl hone
        have HGz : Hid ((w2.alloc (.cells (madeCells #[.int .i64 0] xs.length) 3)).heap[w2.heap.size]? = some (.cells ((zeros xs.length).map (Value.int .i64)).toArray 3 (0, 0))) := by
          show _ = _
          rw [madeCells_zeros]; exact heap_alloc_last _ _
        have HSrc2 : Hid (0 < cs.length → ∃ ad, a' = some ad ∧ ∀ j v, cs[j]? = some v → (w2.alloc (.cells (madeCells #[.int .i64 0] xs.length) 3)).cell? (ad.add j) = some v) := fun h => by
          have hY3 := HY2.out.below HAl.out
          have hne : bs ≠ [] := by intro e; have h2 := HCl.out; rw [e] at h2; simp only [List.length_nil] at h2; omega
          obtain ⟨b, off, e, _⟩ := hY3 hne
          exact ⟨_, e, HSrc.out _ _ (e ▸ hY3)⟩
        clear HSrc
        have HAdd : Hid (∀ W : World, Ints .i64 W W.heap.size a xs → Ints .i64 W W.heap.size (some ⟨w2.heap.size, 0, none⟩) (damage xs.length k bs) → Calls Try.prog 29 #[.slice a xs.length c, .slice (some ⟨w2.heap.size, 0, none⟩) xs.length xs.length] W (ListPostC (sumBits xs (damage xs.length k bs)) W)) := fun W h1 h2 => by
          have := addBits_room a (some ⟨w2.heap.size, 0, none⟩) c xs.length W.heap.size W.heap.size xs (damage xs.length k bs) W h1 h2 (Nat.le_refl _) (Nat.le_refl _)
          rw [HDl.out, HPair.out] at this
          exact this
        have HFIT : Hid (k + cs.length ≤ ((zeros xs.length).map (Value.int .i64)).length) := by
          show _ ≤ _
          rw [HCl.out, List.length_map, zeros_length]; exact hk
        by_cases hkn : k < xs.length
        · have HNN : Hid (cs.length = Nat.min bs.length (xs.length - k)) := by
            show _ = min _ _
            rw [HCl.out]; omega
          have hcapk : ¬ xs.length = k := by omega
          go_wp2_with (with_reducible refine wpList_copy_splice rfl (.tmp 35) (.tmp 36) 28 28 rfl 3 Try.underlying28 infoInt1 _ a' _ _ bs.length c' rfl rfl w2.heap.size k ((zeros xs.length).map (Value.int .i64)) 3 HGz.out cs HNN.out (fun h => ⟨rfl, HSrc2.out h⟩) HFIT.out HOne.out w2.heap.size w2 HAl.out (Nat.le_refl _) ?_; intro w3 hg3 hb3; have HG3 := Lib.hid hg3; have HB3 := Lib.hid (Below.next HB2.out (Nat.le_refl _) hb3); have HX3 := Lib.hid (HX2.out.next hb3); clear hg3 hb3)
          have HD3 : Hid (Ints .i64 w3 w3.heap.size (some ⟨w2.heap.size, 0, none⟩) (damage xs.length k bs)) := ints_of_cells (HSp.out ▸ HG3.out)
          refine (HAdd.out w3 HX3.out HD3.out).mono ?_
          rintro e w4 ⟨v4, c4, rfl, r4, o4, b4⟩
          have HO4 := Lib.hid (own_of_list o4).ints
          have HR4 := Lib.hid r4
          have HB4 := Lib.hid (Below.next HB3.out (Nat.le_refl _) b4)
          clear o4 b4 r4
          go_wp2_with fail
          refine (checkPasses_any v4 c4 (sumBits xs (damage xs.length k bs)) g w4 HO4.out HR4.out.1 HR4.out.2).mono ?_
          rintro e w5 ⟨rfl, b5⟩
          have HB5 := Lib.hid (Below.next HB4.out (Nat.le_refl _) b5)
          clear b5
          go_wp2
          go_ret
          exact ⟨ret_bool HE.out.symm, HB5.out⟩
        · obtain rfl : xs.length = k := by omega
          have hb0 : bs.length = 0 := by omega
          have HNN : Hid (cs.length = Nat.min bs.length 0) := by
            show _ = min _ _
            rw [HCl.out]; omega
          have HZ : Hid (¬ 0 < cs.length) := by
            show ¬ _
            rw [HCl.out]; omega
          clear hb0
          go_wp2_with (with_reducible refine wpList_copy_splice rfl (.tmp 35) (.tmp 36) 28 28 rfl 3 Try.underlying28 infoInt1 _ a' _ _ bs.length c' rfl rfl w2.heap.size xs.length ((zeros xs.length).map (Value.int .i64)) 3 HGz.out cs HNN.out (fun h => absurd h HZ.out) HFIT.out HOne.out w2.heap.size w2 HAl.out (Nat.le_refl _) ?_; intro w3 hg3 hb3; have HG3 := Lib.hid hg3; have HB3 := Lib.hid (Below.next HB2.out (Nat.le_refl _) hb3); have HX3 := Lib.hid (HX2.out.next hb3); clear hg3 hb3)
          have HD3 : Hid (Ints .i64 w3 w3.heap.size (some ⟨w2.heap.size, 0, none⟩) (damage xs.length xs.length bs)) := ints_of_cells (HSp.out ▸ HG3.out)
          refine (HAdd.out w3 HX3.out HD3.out).mono ?_
          rintro e w4 ⟨v4, c4, rfl, r4, o4, b4⟩
          have HO4 := Lib.hid (own_of_list o4).ints
          have HR4 := Lib.hid r4
          have HB4 := Lib.hid (Below.next HB3.out (Nat.le_refl _) b4)
          clear o4 b4 r4
          go_wp2_with fail
          refine (checkPasses_any v4 c4 (sumBits xs (damage xs.length xs.length bs)) g w4 HO4.out HR4.out.1 HR4.out.2).mono ?_
          rintro e w5 ⟨rfl, b5⟩
          have HB5 := Lib.hid (Below.next HB4.out (Nat.le_refl _) b5)
          clear b5
          go_wp2
          go_ret
          exact ⟨ret_bool HE.out.symm, HB5.out⟩
      · have HE : Hid (burstB g xs i bs = false) := by
          show _ = _
          simp only [burstB, burstIn]
          by_cases h0 : 0 ≤ i
          · have h4 : ¬ i ≤ (xs.length : Int) - (bs.length : Int) := fun h => h3 ⟨h0, h⟩
            simp [h4]
          · simp [h0]
        clear h1 h2 p1 p2 p3 p4
        by_cases h0 : 0 ≤ i
        · have hn0 : ¬ (i < 0) := by omega
          have hn1 : (xs.length : Int) - (bs.length : Int) < i := by omega
          clear h3
          go_enter Try.func37, Try.ntmps37
          go_wp2_with fail
          refine HP.out.mono ?_
          rintro e w1 ⟨rfl, b1⟩
          have HB := Lib.hid b1
          have HY1 := Lib.hid (HY.out.next b1)
          clear b1
          go_wp2_with fail
          refine (HV.out w1 HY1.out).mono ?_
          rintro e w2 ⟨rfl, b2⟩
          have HB2 := Lib.hid (Below.next HB.out (Nat.le_refl _) b2)
          clear b2
          go_wp2
          go_ret
          exact ⟨ret_bool HE.out.symm, HB2.out⟩
        · have hn0 : i < 0 := by omega
          clear h3
          go_enter Try.func37, Try.ntmps37
          go_wp2_with fail
          refine HP.out.mono ?_
          rintro e w1 ⟨rfl, b1⟩
          have HB := Lib.hid b1
          have HY1 := Lib.hid (HY.out.next b1)
          clear b1
          go_wp2_with fail
          refine (HV.out w1 HY1.out).mono ?_
          rintro e w2 ⟨rfl, b2⟩
          have HB2 := Lib.hid (Below.next HB.out (Nat.le_refl _) b2)
          clear b2
          go_wp2
          go_ret
          exact ⟨ret_bool HE.out.symm, HB2.out⟩
end Go.Proofs.Ytnmpeeailljdaaa
