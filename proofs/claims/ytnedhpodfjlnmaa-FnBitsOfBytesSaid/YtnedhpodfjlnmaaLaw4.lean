/-
  The law of BytesOfBits, walked: it returns true for every code, and writes into nothing that was there.
-/
import Derived.Test.YtnedhpodfjlnmaaDraw6
import Derived.Laws.BytesArg
namespace Go.Proofs.Ytnedhpodfjlnmaa
open Go.RowKit

theorem packOk_parts {xs : List Int} (h : packOk xs = true) : bitsOk xs = true ∧ xs.length % 8 = 0 ∧ xs.length ≤ 1024 := by
  simp only [packOk, Bool.and_eq_true, decide_eq_true_eq] at h
  exact ⟨h.1, h.2, bitsOk_length h.1⟩
theorem yob_bytes (xs : List Int) : ∀ x ∈ yobOr xs, isByte x := by
  unfold yobOr
  split
  · intro x hx
    simp only [byteList, List.mem_map] at hx
    obtain ⟨k, _, rfl⟩ := hx
    have := msb_lt (bitsF xs xs.length) (8 * k) 8
    exact ⟨by omega, by omega⟩
  · simp
theorem yob_length {xs : List Int} (h : packOk xs = true) : (yobOr xs).length = xs.length / 8 := by simp [yobOr, h, byteList_length]
theorem bob_yob {xs : List Int} (h : packOk xs = true) : bobOr (yobOr xs) = xs := by
  obtain ⟨h1, h2, h3⟩ := packOk_parts h
  have hy : yobOr xs = byteList (bitsF xs xs.length) (xs.length / 8) := by simp [yobOr, h]
  have hb : bytesOk (yobOr xs) = true := by simp [bytesOk, yob_length h]; omega
  unfold bobOr
  rw [if_pos hb, yob_length h]
  refine list_ext (by rw [bitList_length]; omega) fun j hj => ?_
  rw [bitList_length] at hj
  rw [bitList_el _ _ _ hj, bitsF_val h1 (by omega)]
  have e : bytesF (yobOr xs) (xs.length / 8) j = bitsF xs xs.length j := by
    unfold bytesF
    rw [decide_eq_true (by omega), Bool.true_and, hy, byteList_el _ _ _ (by omega), Int.toNat_natCast, msb_test _ _ _ _ (by omega)]
    congr 1
    omega
  rw [e]
  cases bitsF xs xs.length j <;> rfl
theorem packOk_more {xs : List Int} (h : packOk xs = true) : packOk (xs ++ [0]) = false := by
  have := packOk_parts h
  simp [packOk]
  intro _
  omega
theorem conv_bytes {w : World} {B c : Nat} {a : Option Addr} {xs : List Int} (h : Ints .u8 w B a xs) : (convert 22 9 (.slice a xs.length c)).run Try.prog w = .ok (.string (strOfNums xs)) w := by
  by_cases hne : xs = []
  · subst hne
    rw [run_convert_bytes_string w 22 9 5 a _ c Try.underlying22 Try.underlying5 Try.underlying9]
    cases a with
    | none => simp [Conv.bytesToString]; rfl
    | some ad =>
      have hl : (loadCells ad 0).run Try.prog w = .ok ((([] : List Int).map (Value.int .u8)).toArray) w := by simp [loadCells, loadCellsFrom]
      exact (run_bytesToString w ad 0 c [] hl).trans rfl
  · obtain ⟨b, off, rfl, _, hc⟩ := h hne
    exact run_convert_bytes_arg w 22 5 Try.underlying22 Try.underlying5 b off xs.length c xs rfl (fun i hi => hc i hi) 9 Try.underlying9

theorem conv_str {w : World} {B c n : Nat} {a : Option Addr} {xs : List Int} (h : Ints .u8 w B a xs) (hn : xs.length = n) : (convert 22 9 (.slice a n c)).run Try.prog w = .ok (.string (strOfNums xs)) w := by
  subst hn
  exact conv_bytes (c := c) h

set_option maxHeartbeats 2000000 in
theorem walkBytesOfBits (a : Option Addr) (c : Nat) (ds : List Int) (w : World) (hx : Ints .u8 w w.heap.size a ds) (hw : ∀ n ∈ ds, (Lit.int .u8 n).wf = true) (hc : ds.length ≤ c) (hcm : c ≤ maxLen) :
    Calls Try.prog 5 #[.slice a ds.length c] w fun e w' => e = .returned (.bool true) ∧ Below w.heap.size w w' := by
  have hb := isByte_of_wf hw
  clear hw
  by_cases hl : ds.length ≤ 1048576
  · go_enter Try.func5, Try.ntmps5
    go_wp2_with fail
    refine (drawBytesOfBits_any a c ds w hx hb hc hcm).mono ?_
    rintro e w1 ⟨xs, ad, c1, rfl, l1, lc, i1, b1⟩
    have I1 := Lib.hid i1
    have B1 := Lib.hid b1
    clear hx hb hc hcm i1 b1
    have L1 := Lib.hid (show xs.length ≤ maxLen by unfold maxLen; omega)
    obtain ⟨S, hS⟩ : ∃ S, S = yobOr xs := ⟨_, rfl⟩
    have hSl : S.length ≤ 1048576 := by rw [hS]; exact yobOr_length xs (by omega)
    have HS := Lib.hid hS
    clear hS
    cases hok : packOk xs
    · have hi := bytesOfBits_any (some ad) c1 w1.heap.size xs w1 I1.out (Nat.le_refl _)
      have hz : S.length = 0 := by rw [HS.out]; simp [yobOr, hok]
      rw [hok, ← HS.out] at hi
      have HI := Lib.hid hi
      have HOk := Lib.hid hok
      clear hi hok
      go_wp2_with fail
      refine HI.out.mono ?_
      rintro e w2 ⟨g, cg, rfl, o2, b2⟩
      have G2 := Lib.hid (own_of_bytes o2).ints
      have J1 := Lib.hid (I1.out.next b2)
      have B2 := Lib.hid (Below.next B1.out (Nat.le_refl _) b2)
      clear o2 b2 HI
      have hs := specBytesOfBits_any (some ad) c1 w2.heap.size xs w2 J1.out (Nat.le_refl _) L1.out
      rw [HOk.out, ← HS.out] at hs
      have HSp := Lib.hid hs
      clear hs
      go_wp2_with fail
      refine HSp.out.mono ?_
      rintro e w3 ⟨v3, cv3, rfl, o3, b3⟩
      have cv1 := conv_str (c := cg) (G2.out.next b3) hz
      have cv2 := conv_str (c := cv3) (own_of_bytes o3).ints hz
      have B3 := Lib.hid (Below.next B2.out (Nat.le_refl _) b3)
      clear o3 b3 HSp
      go_wp2_with fail
      refine (alive_any w3).mono ?_
      rintro e w4 ⟨rfl, b4⟩
      have B4 := Lib.hid (Below.next B3.out (Nat.le_refl _) b4)
      clear b4
      go_wp2
      go_ret
      exact ⟨rfl, B4.out⟩
    · have hi := bytesOfBits_any (some ad) c1 w1.heap.size xs w1 I1.out (Nat.le_refl _)
      rw [hok, ← HS.out] at hi
      have HI := Lib.hid hi
      have HOk := Lib.hid hok
      have HMore := Lib.hid (packOk_more hok)
      have HBk : Hid (bobOr S = xs) := by rw [HS.out]; exact bob_yob hok
      have HBy : Hid (∀ x ∈ S, isByte x) := by rw [HS.out]; exact yob_bytes xs
      clear hi hok
      go_wp2_with fail
      refine HI.out.mono ?_
      rintro e w2 ⟨g, cg, rfl, o2, b2⟩
      have G2 := Lib.hid (own_of_bytes o2).ints
      have J1 := Lib.hid (I1.out.next b2)
      have B2 := Lib.hid (Below.next B1.out (Nat.le_refl _) b2)
      clear o2 b2 HI
      have hs := specBytesOfBits_any (some ad) c1 w2.heap.size xs w2 J1.out (Nat.le_refl _) L1.out
      rw [HOk.out, ← HS.out] at hs
      have HSp := Lib.hid hs
      clear hs
      go_wp2_with fail
      refine HSp.out.mono ?_
      rintro e w3 ⟨v3, cv3, rfl, o3, b3⟩
      have cv1 := conv_str (c := cg) (G2.out.next b3) rfl
      have cv2 := conv_str (c := cv3) (own_of_bytes o3).ints rfl
      have G3 := Lib.hid (G2.out.next b3)
      have K1 := Lib.hid (J1.out.next b3)
      have B3 := Lib.hid (Below.next B2.out (Nat.le_refl _) b3)
      clear o3 b3 HSp
      have hI := Lib.hid (fun o : Obj => Ints.below (w := w3) K1.out ((Below.refl w3.heap.size w3).alloc (Nat.le_refl _) o))
      go_wp2_with (first
        | (at_builtin; refine wpList_appendSg (.tmp 44) (.tmp 45) w3.heap.size (some ⟨w3.heap.size, 0, none⟩) 0 0 [] xs ad xs.length c1 _ rfl rfl rfl rfl (Grow.lit0 _ _ _ _ (Nat.le_refl _)) (hI.out _) rfl (by omega) (by simp) ?_; intro a4 cap4 w4 hg4 hb4 hnn4; have HG4 := Lib.hid hg4; have HB4 := Lib.hid hb4; clear hg4 hb4 hnn4; have hs4 : w3.heap.size ≤ w4.heap.size := by (have := HB4.out.size; simp at this; omega))
        | (at_builtin; refine wpList_append1g (.tmp 46) (.tmp 47) w3.heap.size a4 xs.length cap4 xs ⟨w4.heap.size, 0, none⟩ 0 rfl rfl rfl rfl (by have := HG4.out.alloc (.cells #[.int .i64 0] 3); rw [Nat.zero_add] at this; exact this) (by simp) (by omega) (by simp; omega) ?_; intro a5 cap5 w5 hg5 hb5; have HG5 := Lib.hid hg5; have HB5 := Lib.hid hb5; clear hg5 hb5))
      have h5 := bytesOfBits_any a5 cap5 w5.heap.size (xs ++ [0]) w5 HG5.out.ints (Nat.le_refl _)
      rw [HG5.out.len, HMore.out] at h5
      have H5 := Lib.hid h5
      have BB := Lib.hid ((((Below.refl w3.heap.size w3).alloc (Nat.le_refl _) _).trans HB4.out).trans (((Below.refl w3.heap.size w4).alloc hs4 _).trans HB5.out))
      have B5 := Lib.hid (Below.next B3.out (Nat.le_refl _) BB.out)
      have G5 := Lib.hid (G3.out.next BB.out)
      have K5 := Lib.hid (K1.out.next BB.out)
      clear h5 hI BB cv1 cv2
      refine H5.out.mono ?_
      rintro e w6 ⟨g6, cg6, rfl, o6, b6⟩
      have G6 := Lib.hid (G5.out.next b6)
      have K6 := Lib.hid (K5.out.next b6)
      have B6 := Lib.hid (Below.next B5.out (Nat.le_refl _) b6)
      clear o6 b6 H5
      have h7 := bitsOfBytes_any g cg w6.heap.size S w6 G6.out (Nat.le_refl _) HBy.out
      rw [HBk.out] at h7
      have H7 := Lib.hid h7
      clear h7
      go_wp2_with fail
      refine H7.out.mono ?_
      rintro e w7 ⟨g7, cg7, rfl, o7, b7⟩
      have V7 := Lib.hid (own_of_list o7).ints
      have K7 := Lib.hid (K6.out.next b7)
      have B7 := Lib.hid (Below.next B6.out (Nat.le_refl _) b7)
      have zx : decide (xs = xs) = true := by simp
      clear o7 b7 H7
      go_wp2_with fail
      refine (sameInts_any g7 (some ad) cg7 c1 w7.heap.size w7.heap.size xs xs w7 V7.out K7.out (by omega)).mono ?_
      rintro e w8 ⟨rfl, n8, rfl⟩
      go_wp2
      go_ret
      exact ⟨rfl, below_drewN B7.out n8⟩
  · go_enter Try.func5, Try.ntmps5
    go_wp2
    go_ret
    exact ⟨rfl, Below.refl _ _⟩
end Go.Proofs.Ytnedhpodfjlnmaa
