/-
  How the law of BytesOfBits draws its list of bits. Condition: the code has at most 2^20 bytes.
-/
import Derived.Test.YtnedhpodfjlnmaaDraw5
namespace Go.Proofs.Ytnedhpodfjlnmaa
open Go.RowKit

def GrowPost (xs : List Int) (w : World) (e : Ending) (w' : World) : Prop :=
  ∃ a n cap, e = .returned (.slice a n cap) ∧ Grow .i64 3 w' w.heap.size a n cap xs ∧ a ≠ none ∧ Below w.heap.size w w'
theorem growPost {xs : List Int} {w w' : World} {a : Option Addr} {n cap : Nat} (h : Grow .i64 3 w' w.heap.size a n cap xs) (hn : a ≠ none) (hb : Below w.heap.size w w') : GrowPost xs w (.returned (.slice a n cap)) w' := ⟨a, n, cap, rfl, h, hn, hb⟩
set_option maxHeartbeats 1000000 in
theorem specBitsOfBytes_grow (a : Option Addr) (c B : Nat) (ds : List Int) (w : World) (hx : Ints .u8 w B a ds) (hB : B ≤ w.heap.size) (hw : ∀ n ∈ ds, isByte n) (hl : ds.length ≤ maxLen) :
    Calls Try.prog 22 #[.slice a ds.length c] w (GrowPost (bobOr ds) w) := by
  have HX := Lib.hid (hx.more hB)
  have HW := Lib.hid hw
  unfold maxLen at hl
  clear hx hw
  by_cases hlen : ds.length ≤ 128
  · have hdc : decide ((ds.length : Int) ≤ 128) = true := by simp; omega
    have HZ := Lib.hid (show bobOr ds = bitList (bytesF ds ds.length) (ds.length * 8) by simp [bobOr, bytesOk, hlen])
    go_enter Try.func22, Try.ntmps22
    go_wp2
    go_loopw [3, 4] (fun s i wr => ∃ (k : Nat) (v : Option Addr) (cap : Nat), k ≤ ds.length ∧ i = .int .i64 k ∧ s = .slice v (8 * k) cap ∧ (Grow .i64 3 wr w.heap.size v (8 * k) cap (bitList (bytesF ds ds.length) (8 * k)) ∧ v ≠ none) ∧ Below w.heap.size w wr) (fun _ i _ => ds.length - (intOf i).toNat)
    case atStart => exact ⟨0, _, _, Nat.zero_le _, rfl, rfl, ⟨Grow.lit0 _ _ _ _ (Nat.le_refl _), by simp⟩, (Below.refl _ _).alloc (Nat.le_refl _) _⟩
    case round =>
      obtain ⟨k, v, cap, hk, rfl, rfl, ⟨hgr, hvn⟩, hbel⟩ := hrel
      have HG := Lib.hid hgr
      have HVN := Lib.hid hvn
      clear hvn
      have HBe := Lib.hid hbel
      clear hgr hbel
      by_cases hlt : k < ds.length
      · go_wp2
        go_loopw [3, 5] (fun s i wr' => ∃ (q n : Nat) (v : Option Addr) (cap : Nat), q ≤ 8 ∧ Idx q i ∧ s = .slice v n cap ∧ (Inner ds w k q n v cap wr' ∧ v ≠ none)) (fun _ i _ => (intOf i + 1).toNat)
        case atStart => exact ⟨8, _, v, cap, Nat.le_refl _, .inr ⟨7, rfl, rfl⟩, rfl, ⟨⟨rfl, HG.out, HBe.out⟩, HVN.out⟩⟩
        case round =>
          obtain ⟨q, n, v', cap', hq, hj, rfl, hin, hvn⟩ := hrel
          obtain ⟨hn, hgr, hbel⟩ := hin
          have HVN' := Lib.hid hvn
          clear hvn
          have HN := Lib.hid hn
          have HG' := Lib.hid hgr
          have HBe' := Lib.hid hbel
          clear hgr hbel hn
          rcases hj with ⟨rfl, rfl⟩ | ⟨j, rfl, rfl⟩
          · obtain rfl : n = 8 * (k + 1) := by have := HN.out; omega
            go_wp2
            go_roundw
            case rel => exact ⟨k + 1, v', cap', by omega, by go_num, rfl, ⟨HG'.out, HVN'.out⟩, HBe'.out⟩
            case measure => simp [intOf]; omega
          · obtain ⟨b, off, rfl, hb', hc⟩ := (HX.out.below HBe'.out).at_ hlt
            have hby := HW.out _ (el_mem hlt)
            obtain ⟨d, hd⟩ : ∃ d : Nat, d = (el ds k).toNat := ⟨_, rfl⟩
            have hed : el ds k = (d : Int) := by have := hby.1; omega
            have hd2 : d < 256 := by have := hby.2; omega
            rw [hed] at hc
            have HF := Lib.hid (bytesF_at (j := j) hlt (by omega) hd)
            clear hd hed hby
            have hsz : w.heap.size ≤ wr.heap.size := HBe'.out.size
            have hnn : n ≤ 1032 := by have := HN.out; omega
            go_wp2_with (at_builtin; refine wpList_append1 (.tmp 22) (.tmp 31) w.heap.size v' n cap' _ ⟨wr.heap.size, 0, none⟩ ((wrap64 ((d : Int) / 2 ^ j)).tmod 2) rfl rfl rfl rfl (HG'.out.alloc _) (by simp) (by omega) (by simp; omega) ?_; intro a2 cap2 w2 hg2 hb2; have HG2 := Lib.hid hg2; have HB2 := Lib.hid hb2; clear hg2 hb2)
            go_roundw
            case rel => exact ⟨j, n + 1, a2, cap2, by omega, idx_pred j, rfl, ⟨inner_step HN.out (by omega) HF.out (bit_val d j hd2) HG2.out HBe'.out HB2.out, by obtain ⟨_, e⟩ := HG2.out.addr; rw [e]; simp⟩⟩
            case measure => simp [intOf]
      · go_wp2
        go_ret
        obtain rfl : ds.length = k := by omega
        rw [HZ.out, Nat.mul_comm]
        exact growPost HG.out HVN.out HBe.out
  · have HZ := Lib.hid (show bobOr ds = [] by simp [bobOr, bytesOk, hlen])
    go_enter Try.func22, Try.ntmps22
    go_wp2
    refine wp_loop_rounds 1 ?_
    rw [rounds_succ]
    go_wp2
    go_ret
    rw [HZ.out]
    exact growPost (Grow.lit0 _ _ _ _ (Nat.le_refl _)) (by simp) ((Below.refl _ _).alloc (Nat.le_refl _) _)

set_option maxHeartbeats 1000000 in
theorem drawBytesOfBits_any (a : Option Addr) (c : Nat) (ds : List Int) (w : World) (hx : Ints .u8 w w.heap.size a ds) (hw : ∀ n ∈ ds, isByte n) (hc : ds.length ≤ c) (hcm : c ≤ maxLen) :
    Calls Try.prog 24 #[.slice a ds.length c] w (OnePost w) := by
  have hl : ds.length ≤ maxLen := Nat.le_trans hc hcm
  go_enter Try.func24, Try.ntmps24
  go_wp2_with fail
  refine (open_any a c ds w hx hw hc hl hcm).mono ?_
  rintro e w1 ⟨rfl, r1, b1⟩
  have R1 := Lib.hid r1
  have B1 := Lib.hid b1
  have hs1 : w.heap.size < w1.heap.size := r1.lt
  clear hx hw hc hcm hl r1 b1
  go_wp2_with fail
  refine (bytesDraw_any w.heap.size 0 5 w1 R1.out (by omega) (by omega)).mono ?_
  rintro e w2 ⟨bs, ad2, n2, cap2, p2, rfl, hn2, hby, hgr2, hrd2, hp2, hgn2⟩
  have B2 := Lib.hid (B1.out.grown hgn2 B1.out.size (fun k e => by injection e; omega))
  have R2 := Lib.hid hrd2
  have hs2 : w1.heap.size ≤ w2.heap.size := hgn2.size
  have hlen2 := hgr2.len
  have I2 := Lib.hid hgr2.ints
  have Y2 := Lib.hid hby
  clear hgn2 hrd2 hgr2 hby R1 B1
  have hlb : (bobOr bs).length ≤ 1024 := by
    unfold bobOr; split
    · rw [bitList_length]; omega
    · simp
  have hsp := specBitsOfBytes_grow (some ad2) cap2 w2.heap.size bs w2 I2.out (Nat.le_refl _) Y2.out (by unfold maxLen; omega)
  rw [hlen2] at hsp
  have HSp := Lib.hid hsp
  clear hsp hlen2
  go_wp2_with fail
  refine HSp.out.mono ?_
  rintro e w3 ⟨a3, n3, cap3, rfl, g3, hn3, b3⟩
  obtain ⟨bb3, rfl, _⟩ := g3.addr0 hn3
  have hl3 := g3.len
  have hn3' : n3 ≤ 1024 := by omega
  have G3 := Lib.hid g3
  have R3 := Lib.hid (R2.out.below b3 (by omega))
  have B3 := Lib.hid (Below.next B2.out (Nat.le_refl _) b3)
  have hs3 : w2.heap.size ≤ w3.heap.size := b3.size
  clear g3 hn3 b3 HSp hl3
  go_wp2_with fail
  refine (odd_any w.heap.size p2 4 w3 R3.out (by omega) (by omega) (by omega)).mono ?_
  rintro e w4 ⟨b4, rfl, r4, g4⟩
  have R4 := Lib.hid r4
  have G4 := Lib.hid (G3.out.grownR g4 (by omega))
  have B4 := Lib.hid (B3.out.grown g4 B3.out.size (fun k e => by injection e; omega))
  have hs4 : w3.heap.size ≤ w4.heap.size := g4.size
  clear r4 g4
  cases b4
  · have hl4 := G4.out.len
    have HP : Hid (OnePost w (.returned (.slice (some ⟨bb3, 0, none⟩) n3 cap3)) w4) := ⟨_, _, cap3, by rw [hl4], by omega, by have := G4.out.cap_le; omega, G4.out.ints, B4.out⟩
    clear hl4
    go_wp2
    go_ret
    exact HP.out
  · go_wp2_with fail
    refine (pick_any w.heap.size (p2 + 1) 3 w4 R4.out (by omega) (by omega) (by omega)).mono ?_
    rintro e w5 ⟨v5, ⟨hv5, hv5'⟩, rfl, r5, g5⟩
    have G5 := Lib.hid (G4.out.grownR g5 (by omega))
    have B5 := Lib.hid (B4.out.grown g5 B4.out.size (fun k e => by injection e; omega))
    have hs5 : w4.heap.size ≤ w5.heap.size := g5.size
    clear r5 g5
    go_wp2_with (at_builtin; refine wpList_append1 (.tmp 12) (.tmp 15) w2.heap.size (some ⟨bb3, 0, none⟩) n3 cap3 (bobOr bs) ⟨w5.heap.size, 0, none⟩ v5 rfl rfl rfl rfl (G5.out.alloc _) (by simp) (by omega) (by simp; omega) ?_; intro a6 cap6 w6 hg6 hb6; have HG6 := Lib.hid hg6; have HB6 := Lib.hid hb6; clear hg6 hb6)
    go_ret
    obtain ⟨ad6, rfl⟩ := HG6.out.addr
    have hl6 := HG6.out.len
    exact ⟨_, ad6, cap6, by rw [hl6]; rfl, by omega, by have := HG6.out.cap_le; omega, HG6.out.ints, (B5.out.alloc B5.out.size _).trans (HB6.out.mono (by omega))⟩
end Go.Proofs.Ytnedhpodfjlnmaa
