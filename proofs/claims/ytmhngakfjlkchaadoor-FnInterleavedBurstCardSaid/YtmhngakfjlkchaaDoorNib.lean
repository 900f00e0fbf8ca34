/-
  What the functions of the block code answer on one word: the number of a word, its data, code words, syndromes, decoding. Conditions: the program's two tables lie in their variables, where a word is looked up.
-/
import Derived.Test.YtmhngakfjlkchaaDoorNibMath
import Derived.Test.YtmhngakfjlkchaaDoorRems
import Derived.Test.YtmhngakfjlkchaaDoorImpl2
import Derived.Test.YtmhngakfjlkchaaDoorOne
namespace Go.Proofs.YtmhngakfjlkchaaDoor
open Go.RowKit

theorem mask7 : IntKind.u64.wrap (IntKind.u64.wrap ((2 : Int) ^ 7) - 1) = ((2 ^ 7 - 1 : Nat) : Int) := rfl
theorem number7_eq {W : Nat} (hW : W < 2 ^ 64) : wrap64 (bits BinOp.and IntKind.u64 ((W : Int) / 2 ^ 57) (IntKind.u64.wrap (IntKind.u64.wrap ((2 : Int) ^ 7) - 1))) = ((W / 2 ^ 57 % 2 ^ 7 : Nat) : Int) := by
  have h2 : ((W : Int) / 2 ^ 57) = ((W / 2 ^ 57 : Nat) : Int) := by
    rw [Int.natCast_ediv, Int.natCast_pow]; rfl
  have hlt : W / 2 ^ 57 ≤ W := Nat.div_le_self _ _
  rw [mask7, h2, u64_and_nat _ _ (by omega) (by omega), Nat.and_two_pow_sub_one_eq_mod]
  have hm : W / 2 ^ 57 % 2 ^ 7 < 2 ^ 7 := Nat.mod_lt _ (Nat.two_pow_pos _)
  generalize W / 2 ^ 57 % 2 ^ 7 = q at *
  exact wrap64_in (by omega)
set_option maxHeartbeats 400000 in
theorem numberAt7_any (W : Nat) (w : World) (hW : W < 2 ^ 64) :
    Calls Tryd.prog 34 #[.int .u64 W, .int .i64 0, .int .i64 7] w fun e w' => e = .returned (.int .i64 ((W / 2 ^ 57) % 2 ^ 7 : Nat)) ∧ ∃ n, w' = w.drewN n := by
  have HE := Lib.hid (number7_eq hW)
  clear hW
  go_enter Tryd.func34, Tryd.ntmps34
  go_wp2
  go_quiet (fail)
  go_wp2
  go_ret
  exact ⟨ret_int HE.out, _, rfl⟩
theorem num7_packed {P : Nat → Nat} {xs : List Int} (h : Packed P (bitsF xs 7)) : P 0 / 2 ^ 57 % 2 ^ 7 = num7 xs := by
  apply Nat.eq_of_testBit_eq
  intro i
  rw [num7, numF_test, Nat.testBit_mod_two_pow, Nat.testBit_div_two_pow]
  by_cases hi : i < 7
  · simp only [hi, decide_true, Bool.true_and]
    have h1 := h.2 (7 - 1 - i) (by omega)
    rw [show (7 - 1 - i) / 64 = 0 by omega] at h1
    rw [← h1]
    congr 1
    omega
  · simp [hi]

/-- Seven bits. -/
def wordOk (xs : List Int) : Bool := bitsOk xs && decide (xs.length = 7)
def numOr (xs : List Int) : Nat := if wordOk xs then num7 xs else 0
theorem wordOk_parts {xs : List Int} (h : wordOk xs = true) : xs.length = 7 ∧ xs.all isBit = true := by
  simp only [wordOk, Bool.and_eq_true, decide_eq_true_eq] at h
  exact ⟨h.2, bitsOk_all h.1⟩
theorem wordOk_mk {xs : List Int} (hl : xs.length = 7) (hb : xs.all isBit = true) : wordOk xs = true := by
  simp [wordOk, hl, bitsOk_mk hb (by omega)]
/-- What the number of a word leaves. -/
def WordPost (xs : List Int) (w : World) (e : Ending) (w' : World) : Prop :=
  e = .returned (.tuple #[.int .i64 (numOr xs : Nat), .bool (wordOk xs)]) ∧ Below w.heap.size w w'
theorem wordPost_no {xs : List Int} {w w' : World} (h : wordOk xs = false) (hb : Below w.heap.size w w') : WordPost xs w (.returned (.tuple #[.int .i64 0, .bool false])) w' := by
  refine ⟨?_, hb⟩
  rw [h, numOr, h]; rfl
theorem wordPost_yes {xs : List Int} {w w' : World} {n : Nat} (h : wordOk xs = true) (hn : n = num7 xs) (hb : Below w.heap.size w w') : WordPost xs w (.returned (.tuple #[.int .i64 (n : Int), .bool true])) w' := by
  refine ⟨?_, hb⟩
  rw [h, numOr, h, hn]; rfl
section
variable {w w1 W0 : World} {z cs : Array Value} {t : TypeId} {fr : Nat × Nat}
theorem single_fst (h : Hid (W0 = (w1.alloc (.cells z t fr)).setRow w1.heap.size cs)) : W0.heap[w1.heap.size]? = some (.cells cs t fr) := by
  rw [h.out]; exact setRow_heap _ _ _ _ _ _ (heap_alloc_last _ _)
theorem below_single (hb : Below w.heap.size w w1) (h : Hid (W0 = (w1.alloc (.cells z t fr)).setRow w1.heap.size cs)) : Below w.heap.size w W0 := by
  rw [h.out]; exact below_setRow (hb.alloc hb.size _) hb.size _
theorem pack_cells {P : Nat → Nat} {n : Nat} (h : W0.heap[w1.heap.size]? = some (.cells cs t fr)) (hp : IsPack cs P n) : W0.cell? ⟨w1.heap.size, 16, none⟩ = some (.int .i64 n) ∧ W0.cell? ⟨w1.heap.size, 0, none⟩ = some (.int .u64 (P 0)) :=
  ⟨by rw [← hp.2.2]; exact cell_of_row _ _ _ _ _ _ h, by rw [← hp.2.1 0 (by omega)]; exact cell_of_row _ _ _ _ _ _ h⟩
end
set_option maxHeartbeats 1000000 in
theorem numberOf_any (a : Option Addr) (c B : Nat) (xs : List Int) (w : World) (hx : Ints .i64 w B a xs) (hB : B ≤ w.heap.size) :
    Calls Tryd.prog 30 #[.slice a xs.length c, .int .i64 7] w (WordPost xs w) := by
  have hp := packBits_any a c B xs w hx hB
  clear hx
  cases hb : bitsOk xs
  · have HE := Lib.hid (show wordOk xs = false by simp [wordOk, hb])
    unfold PackPost at hp
    rw [hb] at hp
    have HP := Lib.hid hp
    clear hp hb
    go_enter Tryd.func30, Tryd.ntmps30
    go_wp2_with (first
      | (go_at_call 32; refine HP.out.mono ?_; rintro e w1 ⟨cs, P, rfl, _, hs, h1, hbel⟩; have HS := Lib.hid hs; have H1 := Lib.hid h1; have HB := Lib.hid hbel; clear hs h1 hbel)
      | (refine store_pack (.tmp 6) (.tmp 11) w1.heap.size cs _ (heap_alloc_last _ _) HS.out rfl H1.out rfl rfl rfl rfl ?_))
    go_ret2
    exact wordPost_no HE.out (below_setRow (HB.out.alloc HB.out.size _) HB.out.size _)
  · have hl0 := bitsOk_length hb
    unfold PackPost at hp
    rw [hb] at hp
    have HP := Lib.hid hp
    clear hp
    by_cases hl : xs.length = 7
    · have HE := Lib.hid (show wordOk xs = true by simp [wordOk, hb, hl])
      have HL := Lib.hid hl
      rw [hl] at HP ⊢
      clear hb hl hl0
      go_enter Tryd.func30, Tryd.ntmps30
      go_wp2_with (first
        | (go_at_call 32; refine HP.out.mono ?_; rintro e w1 ⟨cs, P, rfl, hpk, hs, h1, hbel⟩; have HS := Lib.hid hs; have H1 := Lib.hid h1; have HB := Lib.hid hbel; have HK := Lib.hid (hpk rfl); clear hs h1 hbel hpk)
        | (refine store_abs (.tmp 6) (.tmp 11) w1.heap.size cs _ (heap_alloc_last _ _) HS.out rfl H1.out rfl rfl rfl rfl ?_; intro W0 HW0; obtain ⟨c16, c0⟩ := pack_cells (single_fst HW0) HK.out.1; have HB0 := Lib.hid (below_single HB.out HW0); clear HW0))
      refine (numberAt7_any (P 0) W0 (HK.out.2.1 0 (by omega))).mono ?_
      rintro e w2 ⟨rfl, n2, rfl⟩
      have HN := Lib.hid (num7_packed HK.out.2)
      generalize P 0 / 2 ^ 57 % 2 ^ 7 = N at *
      go_wp2
      go_ret2
      exact wordPost_yes HE.out HN.out (below_drewN HB0.out n2)
    · have HE := Lib.hid (show wordOk xs = false by simp [wordOk, hl])
      have hne : ((xs.length : Int) != 7) = true := by simp; omega
      clear hb hl
      go_enter Tryd.func30, Tryd.ntmps30
      go_wp2_with (first
        | (go_at_call 32; refine HP.out.mono ?_; rintro e w1 ⟨cs, P, rfl, hpk, hs, h1, hbel⟩; have HS := Lib.hid hs; have H1 := Lib.hid h1; have HB := Lib.hid hbel; have HK := Lib.hid (hpk rfl); clear hs h1 hbel hpk)
        | (refine store_abs (.tmp 6) (.tmp 11) w1.heap.size cs _ (heap_alloc_last _ _) HS.out rfl H1.out rfl rfl rfl rfl ?_; intro W0 HW0; obtain ⟨c16, c0⟩ := pack_cells (single_fst HW0) HK.out.1; have HB0 := Lib.hid (below_single HB.out HW0); clear HW0))
      go_ret2
      exact wordPost_no HE.out HB0.out

theorem i64_or (a b : Nat) (ha : a < 2 ^ 63) (hb : b < 2 ^ 63) : bits .or .i64 (a : Int) (b : Int) = ((a ||| b : Nat) : Int) := by
  have hof : ∀ n : Nat, n < 2 ^ 63 → (BitVec.ofInt 64 (n : Int)).toNat = n := fun n hn => by
    rw [BitVec.ofInt_natCast, BitVec.toNat_ofNat]; exact Nat.mod_eq_of_lt (by omega)
  have hlt : a ||| b < 2 ^ 63 := Nat.or_lt_two_pow ha hb
  show IntKind.i64.wrap ((BitVec.ofInt 64 (a : Int) ||| BitVec.ofInt 64 (b : Int)).toNat : Int) = _
  rw [BitVec.toNat_or, hof a ha, hof b hb, IntKind.wrap_i64]
  generalize a ||| b = q at hlt
  omega
theorem digits_dat {xs : List Int} (hl : xs.length = 7) (hb : xs.all isBit = true) : digits (dat (num7 xs ^^^ corN (syn xs))) 4 = decW xs := dec_tab hl hb
set_option maxHeartbeats 400000 in
theorem dataOf_any (m : Nat) (w : World) (hm : m < 128) :
    Calls Tryd.prog 31 #[.int .i64 m] w (ListPostC (digits (dat m) 4) w) := by
  have r1 : bits .and .i64 ((m : Int) / 2) 8 = ((m / 2 &&& 8 : Nat) : Int) := i64_and (m / 2) 8 (by omega) (by omega)
  have r2 : bits .and .i64 (m : Int) 7 = ((m &&& 7 : Nat) : Int) := i64_and m 7 (by omega) (by omega)
  have b1 : m / 2 &&& 8 ≤ 8 := Nat.and_le_right
  have b2 : m &&& 7 ≤ 7 := Nat.and_le_right
  obtain ⟨p, hp⟩ : ∃ p, p = m / 2 &&& 8 := ⟨_, rfl⟩
  obtain ⟨q, hq⟩ : ∃ q, q = m &&& 7 := ⟨_, rfl⟩
  obtain ⟨d, hd⟩ : ∃ d, d = dat m := ⟨_, rfl⟩
  rw [← hp] at r1 b1
  rw [← hq] at r2 b2
  have r3 : bits .or .i64 (p : Int) (q : Int) = (d : Int) := by
    rw [hd, dat, ← hp, ← hq]; exact i64_or p q (by omega) (by omega)
  have hd16 : d < 16 := by rw [hd]; exact dat_lt hm
  rw [← hd]
  clear hp hq hd hm
  go_enter Tryd.func31, Tryd.ntmps31
  go_wp2_with fail
  refine (digitsOf_any d 4 w (by omega) (by omega)).mono ?_
  rintro e w1 ⟨rfl, h1, hb1⟩
  have H1 := Lib.hid h1
  have HB1 := Lib.hid hb1
  clear h1 hb1 r1 r2 r3
  go_wp2
  go_ret
  exact listPostC_row H1.out (digits_length _ _).symm (by unfold maxLen; omega) (Nat.le_refl _) HB1.out
end Go.Proofs.YtmhngakfjlkchaaDoor
