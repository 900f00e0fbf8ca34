/-
  How the law of BitsOfBytes draws its bytes, and what BitsOfBytes leaves in memory. Condition: each number of a list of bytes is a byte.
-/
import Derived.Test.YtnedhpodfjlnmaaLaw4
namespace Go.Proofs.Ytnedhpodfjlnmaa
open Go.RowKit

def RowPost (xs : List Int) (w : World) (e : Ending) (w' : World) : Prop :=
  ∃ b n, e = .returned (.slice (some ⟨b, 0, none⟩) n n) ∧ xs.length = n ∧ w'.rowIs b 3 n (fun i => .int .i64 (el xs i)) ∧ w.heap.size ≤ b ∧ Below w.heap.size w w'
set_option maxHeartbeats 1000000 in
theorem bitsOfBytes_row (a : Option Addr) (c B : Nat) (ds : List Int) (w : World) (hx : Ints .u8 w B a ds) (hB : B ≤ w.heap.size) (hw : ∀ n ∈ ds, isByte n) (hpk : bytesOk ds = true) :
    Calls Try.prog 20 #[.slice a ds.length c] w (RowPost (bobOr ds) w) := by
  go_enter Try.func20, Try.ntmps20
  go_wp2_with fail
  refine (packBytes_any a c B ds w hx hB hw).mono ?_
  rintro e w1 ⟨cs, P, rfl, hok, s1, o1, hbel⟩
  have S1 := Lib.hid s1
  have O1 := Lib.hid o1
  have HB := Lib.hid hbel
  have HOk := Lib.hid hok
  have hsz : w.heap.size ≤ w1.heap.size := hbel.size
  clear hx hw s1 o1 hbel hok
  obtain ⟨p1, p2⟩ := HOk.out hpk
  have HPk := Lib.hid hpk
  have P1 := Lib.hid p1
  have P2 := Lib.hid p2
  have hlen : ds.length ≤ 128 := by simpa [bytesOk] using hpk
  clear HOk p1 p2
  go_wp2_with (first | (refine store_abs (.tmp 3) (.tmp 8) w1.heap.size cs _ (heap_alloc_last _ _) S1.out rfl O1.out rfl rfl rfl rfl ?_; intro W0 HW0) | (refine load_pack (.tmp 3) w1.heap.size cs (one_blk HW0) S1.out rfl rfl rfl ?_))
  refine (list_any cs P _ (ds.length * 8) W0 P1.out P2.out (by omega)).mono ?_
  rintro e w3 ⟨rfl, hr3, hb3⟩
  have HR3 := Lib.hid hr3
  have hs0 := size_one HW0
  have HB3 := Lib.hid (Below.next (below_one HB.out HW0) (Nat.le_refl _) hb3)
  clear hr3 hb3
  go_wp2
  go_ret
  have hz : bobOr ds = bitList (bytesF ds ds.length) (ds.length * 8) := by simp [bobOr, HPk.out]
  rw [hz]
  exact ⟨_, ds.length * 8, rfl, bitList_length _ _, HR3.out, by omega, HB3.out⟩


def ByteOne (w : World) (e : Ending) (w' : World) : Prop :=
  ∃ ds b c, e = .returned (.slice (some ⟨b, 0, none⟩) ds.length c) ∧ ds.length ≤ 129 ∧ ds.length ≤ c ∧ (∀ x ∈ ds, isByte x) ∧ Ints .u8 w' w'.heap.size (some ⟨b, 0, none⟩) ds ∧ Below w.heap.size w w'
theorem zeros_bytes (w : World) (n : Nat) : Ints .u8 (w.alloc (.cells (madeCells #[.int .u8 0] n) 5)) (w.heap.size + 1) (some ⟨w.heap.size, 0, none⟩) (zeros n) :=
  ints_of_row ((World.rowIs_made w (.int .u8 0) n 5).congr fun i _ => by rw [zeros_el]) (zeros_length n).symm (by omega)
theorem zeros_byte (n : Nat) : ∀ x ∈ zeros n, isByte x := fun x hx => by
  have := List.eq_of_mem_replicate hx
  subst this
  exact ⟨by omega, by omega⟩
set_option maxHeartbeats 400000 in
theorem drawBitsOfBytes_any (a : Option Addr) (c : Nat) (ds : List Int) (w : World) (hx : Ints .u8 w w.heap.size a ds) (hw : ∀ n ∈ ds, isByte n) (hc : ds.length ≤ c) (hcm : c ≤ maxLen) :
    Calls Try.prog 19 #[.slice a ds.length c] w (ByteOne w) := by
  have hl : ds.length ≤ maxLen := Nat.le_trans hc hcm
  have hm0 : ∀ W : World, (Instr.makeSlice 22 (.int .i64 128) (.int .i64 128)).run Try.prog W = .ok (.slice (some ⟨W.heap.size, 0, none⟩) 128 128) (W.alloc (.cells (madeCells #[.int .u8 0] 128) 5)) :=
    run_make_row' (P := Try.prog) 22 5 (.int .u8 0) 1 Try.underlying22 Try.infoByte rfl .i64 .i64 128 (by omega) (by omega)
  have hm1 : ∀ W : World, (Instr.makeSlice 22 (.int .i64 129) (.int .i64 129)).run Try.prog W = .ok (.slice (some ⟨W.heap.size, 0, none⟩) 129 129) (W.alloc (.cells (madeCells #[.int .u8 0] 129) 5)) :=
    run_make_row' (P := Try.prog) 22 5 (.int .u8 0) 1 Try.underlying22 Try.infoByte rfl .i64 .i64 129 (by omega) (by omega)
  have HM0 := Lib.hid hm0
  have HM1 := Lib.hid hm1
  clear hm0 hm1
  go_enter Try.func19, Try.ntmps19
  go_wp2_with fail
  refine (open_any a c ds w hx hw hc hl hcm).mono ?_
  rintro e w1 ⟨rfl, r1, b1⟩
  have R1 := Lib.hid r1
  have B1 := Lib.hid b1
  clear hx hw hc hcm hl r1 b1
  go_wp2_with fail
  refine (odd_any w.heap.size 0 14 w1 R1.out (by omega) (by omega) (by omega)).mono ?_
  rintro e w2 ⟨b2, rfl, r2, g2⟩
  have R2 := Lib.hid r2
  have B2 := Lib.hid (B1.out.grown g2 B1.out.size (fun k e => by injection e; omega))
  clear r2 g2 R1 B1
  cases b2
  · go_wp2_with fail
    refine (bytesDraw_any w.heap.size (0 + 1) 9 w2 R2.out (by omega) (by omega)).mono ?_
    rintro e w3 ⟨xs, ad, n, cap, p', rfl, hn, hby, hgr, hrd, hp', hgn⟩
    have hlen := hgr.len
    obtain ⟨b3, e3, _⟩ := hgr.addr0 (by simp)
    injection e3 with e3
    subst e3
    have HP : Hid (ByteOne w (.returned (.slice (some ⟨b3, 0, none⟩) n cap)) w3) := ⟨xs, b3, cap, by rw [hlen], by omega, by have := hgr.cap_le; omega, hby, hgr.ints, B2.out.grown hgn B2.out.size (fun k e => by injection e; omega)⟩
    clear hlen hby hgr hrd hgn
    go_wp2
    go_ret
    exact HP.out
  · go_wp2_with fail
    refine (pick_any w.heap.size (0 + 1) 2 w2 R2.out (by omega) (by omega) (by omega)).mono ?_
    rintro e w3 ⟨v3, ⟨hv3, hv3'⟩, rfl, r3, g3⟩
    have B3 := Lib.hid (B2.out.grown g3 B2.out.size (fun k e => by injection e; omega))
    clear r3 g3
    by_cases hz : v3 = 0
    · subst hz
      have hmk := HM0.out
      go_wp2
      go_ret
      exact ⟨zeros 128, w3.heap.size, 128, by rw [zeros_length]; rfl, by rw [zeros_length]; omega, by rw [zeros_length]; omega, zeros_byte 128, (zeros_bytes w3 128).more (by simp), B3.out.alloc B3.out.size _⟩
    · obtain rfl : v3 = 1 := by omega
      have hmk := HM1.out
      go_wp2
      go_ret
      exact ⟨zeros 129, w3.heap.size, 129, by rw [zeros_length]; rfl, by rw [zeros_length]; omega, by rw [zeros_length]; omega, zeros_byte 129, (zeros_bytes w3 129).more (by simp), B3.out.alloc B3.out.size _⟩


theorem grow_of_row {w : World} {b n base : Nat} {xs : List Int} (h : w.rowIs b 3 n (fun i => .int .i64 (el xs i))) (hn : xs.length = n) (hb : base ≤ b) (hm : n ≤ maxLen) : Grow .i64 3 w base (some ⟨b, 0, none⟩) n n xs := by
  obtain ⟨cs, h1, h2, h3⟩ := h
  refine ⟨by simp [hn], .inr ⟨b, n, cs, rfl, hb, h1, Nat.le_refl _, hm, by omega, ?_⟩⟩
  rw [Nat.mul_one]
  apply List.ext_getElem?
  intro i
  rw [List.getElem?_take]
  by_cases hi : i < n
  · rw [if_pos hi, Array.getElem?_toList, h3 i hi]
    simp [hn, hi, el]
  · rw [if_neg hi, List.getElem?_eq_none (by simp; omega)]
/-- Bytes survive: their bits, packed again. -/
theorem bitList_ok (f : Nat → Bool) (n : Nat) (hn : n ≤ 1024) : bitsOk (bitList f n) = true := bitsOk_of (by rw [bitList_length]; exact hn) (fun i hi => by
  rw [bitList_length] at hi
  rw [bitList_el _ _ _ hi]
  split <;> simp)
theorem bob_eq {ds : List Int} (h : ds.length ≤ 128) : bobOr ds = bitList (bytesF ds ds.length) (ds.length * 8) := by simp [bobOr, bytesOk, h]
theorem bob_pack {ds : List Int} (h : ds.length ≤ 128) : packOk (bobOr ds) = true := by
  rw [bob_eq h]
  simp [packOk, bitList_ok _ (ds.length * 8) (by omega), bitList_length]
theorem msb_bytes {ds : List Int} {k : Nat} (hk : k < ds.length) (hb : isByte (el ds k)) {f : Nat → Bool} (hf : ∀ j, j < ds.length * 8 → f j = bytesF ds ds.length j) : (msb f (8 * k) 8 : Int) = el ds k := by
  have e : msb f (8 * k) 8 = (el ds k).toNat := by
    apply Nat.eq_of_testBit_eq
    intro i
    by_cases hi : i < 8
    · rw [msb_test _ _ _ _ hi, hf _ (by omega), show 8 * k + (8 - 1 - i) = 8 * k + (7 - i) by omega, bytesF_at hk hi rfl]
    · have h1 : ∀ x : Nat, x < 256 → x.testBit i = false := fun x hx => Nat.testBit_lt_two_pow (Nat.lt_of_lt_of_le hx (by
        have : 2 ^ 8 ≤ 2 ^ i := Nat.pow_le_pow_right (by omega) (by omega)
        simpa using this))
      rw [h1 _ (msb_lt f (8 * k) 8), h1 _ (by have := hb.1; have := hb.2; omega)]
  rw [e]
  have := hb.1
  omega
theorem yob_bob {ds : List Int} (h : ds.length ≤ 128) (hb : ∀ x ∈ ds, isByte x) : yobOr (bobOr ds) = ds := by
  have hp := bob_pack h
  have hl : (bobOr ds).length = ds.length * 8 := by rw [bob_eq h, bitList_length]
  unfold yobOr
  rw [if_pos hp, hl]
  refine list_ext (by rw [byteList_length]; omega) fun k hk => ?_
  rw [byteList_length] at hk
  rw [byteList_el _ _ _ hk]
  refine msb_bytes (by omega) (hb _ (el_mem (by omega))) fun j hj => ?_
  unfold bitsF
  rw [decide_eq_true hj, Bool.true_and, bob_eq h, bitList_el _ _ _ hj]
  cases bytesF ds ds.length j <;> simp
theorem el_take {xs : List Int} {h i : Nat} (hi : i < h) : el (xs.take h) i = el xs i := by simp [el, hi]
theorem el_drop {xs : List Int} {h i : Nat} : el (xs.drop h) i = el xs (h + i) := by simp [el]
theorem bob_append {ds : List Int} {h : Nat} (hl : ds.length ≤ 128) (hh : h ≤ ds.length) : bobOr (ds.take h) ++ bobOr (ds.drop h) = bobOr ds := by
  have l1 : (ds.take h).length = h := by simp; omega
  have l2 : (ds.drop h).length = ds.length - h := by simp
  rw [bob_eq (by omega), bob_eq (by omega), bob_eq hl, l1, l2]
  refine list_ext (by simp [bitList_length]; omega) fun j hj => ?_
  have hj' : j < ds.length * 8 := by simp [bitList_length] at hj; omega
  rw [bitList_el _ _ _ hj']
  by_cases hjh : j < h * 8
  · have : el (bitList (bytesF (ds.take h) h) (h * 8) ++ bitList (bytesF (ds.drop h) (ds.length - h)) ((ds.length - h) * 8)) j = el (bitList (bytesF (ds.take h) h) (h * 8)) j := by
      simp [el, List.getElem?_append, bitList_length, hjh]
    rw [this, bitList_el _ _ _ hjh]
    unfold bytesF
    rw [el_take (by omega), decide_eq_true (show j < 8 * h by omega), decide_eq_true (show j < 8 * ds.length by omega)]
  · have : el (bitList (bytesF (ds.take h) h) (h * 8) ++ bitList (bytesF (ds.drop h) (ds.length - h)) ((ds.length - h) * 8)) j = el (bitList (bytesF (ds.drop h) (ds.length - h)) ((ds.length - h) * 8)) (j - h * 8) := by
      simp [el, List.getElem?_append, bitList_length, hjh]
    rw [this, bitList_el _ _ _ (by omega)]
    unfold bytesF
    rw [el_drop, decide_eq_true (show j - h * 8 < 8 * (ds.length - h) by omega), decide_eq_true (show j < 8 * ds.length by omega), show h + (j - h * 8) / 8 = j / 8 by omega, show (j - h * 8) % 8 = j % 8 by omega]
end Go.Proofs.Ytnedhpodfjlnmaa
