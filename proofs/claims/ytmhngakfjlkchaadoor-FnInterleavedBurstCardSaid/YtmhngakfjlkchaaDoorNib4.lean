/-
  What EncodeBlocks and DecodeBlocks answer, for every list. Conditions: a slice's room is known; the program's two tables lie in their variables, where a word is looked up.
-/
import Derived.Test.YtmhngakfjlkchaaDoorNib3
namespace Go.Proofs.YtmhngakfjlkchaaDoor
open Go.RowKit

/-- Block k of a list of blocks of m. -/
def part (m : Nat) (xs : List Int) (k : Nat) : List Int := (xs.drop (m * k)).take m
theorem part_length {m k : Nat} {xs : List Int} (h : m * k + m ≤ xs.length) : (part m xs k).length = m := by simp [part]; omega
theorem part_el {m k i : Nat} {xs : List Int} (hi : i < m) : el (part m xs k) i = el xs (m * k + i) := by
  simp [el, part, hi, List.getElem?_drop]
theorem part_bits {m k : Nat} {xs : List Int} (h : xs.all isBit = true) : (part m xs k).all isBit = true := by
  rw [List.all_eq_true] at h ⊢
  exact fun x hx => h x (List.mem_of_mem_drop (List.mem_of_mem_take hx))
theorem part_ints {m k b off B : Nat} {kd : IntKind} {w : World} {xs : List Int} (h : Ints kd w B (some ⟨b, off, none⟩) xs) (hl : m * k + m ≤ xs.length) : Ints kd w B (some ⟨b, off + m * k, none⟩) (part m xs k) := fun hne => by
  have hp := part_length hl
  have hne' : xs ≠ [] := by intro e; subst e; simp [part] at hne
  obtain ⟨b', off', e, hb, hc⟩ := h hne'
  injection e with e
  injection e with e1 e2
  subst e1 e2
  refine ⟨b, off + m * k, rfl, hb, fun i hi => ?_⟩
  rw [hp] at hi
  rw [part_el hi, Nat.add_assoc]
  exact hc _ (by omega)
/-- The code of the first k blocks; the bits of the first k words, and how many of them were corrected. -/
def encK (xs : List Int) : Nat → List Int
  | 0 => []
  | k + 1 => encK xs k ++ encW (part 4 xs k)
def decK (xs : List Int) : Nat → List Int
  | 0 => []
  | k + 1 => decK xs k ++ decW (part 7 xs k)
def fixK (xs : List Int) : Nat → Nat
  | 0 => 0
  | k + 1 => fixK xs k + if syn (part 7 xs k) = 0 then 0 else 1
theorem encK_length (xs : List Int) : ∀ k, (encK xs k).length = 7 * k
  | 0 => rfl
  | k + 1 => by rw [encK, List.length_append, encK_length xs k, encW_length]; omega
theorem decK_length (xs : List Int) : ∀ k, (decK xs k).length = 4 * k
  | 0 => rfl
  | k + 1 => by rw [decK, List.length_append, decK_length xs k, decW_length]; omega
theorem fixK_le (xs : List Int) : ∀ k, fixK xs k ≤ k
  | 0 => Nat.le_refl _
  | k + 1 => by have := fixK_le xs k; simp only [fixK]; split <;> omega
/-- What EncodeBlocks and DecodeBlocks answer. -/
def encB (xs : List Int) : List Int := if blkOk 4 xs then encK xs (xs.length / 4) else []
def decB (xs : List Int) : List Int := if blkOk 7 xs then decK xs (xs.length / 7) else []
def fixB (xs : List Int) : Nat := if blkOk 7 xs then fixK xs (xs.length / 7) else 0
theorem encB_no {xs : List Int} (h : blkOk 4 xs = false) : encB xs = [] := by simp [encB, h]
theorem encB_yes {xs : List Int} (h : blkOk 4 xs = true) : encB xs = encK xs (xs.length / 4) := by simp [encB, h]
theorem decB_no {xs : List Int} (h : blkOk 7 xs = false) : decB xs = [] := by simp [decB, h]
theorem decB_yes {xs : List Int} (h : blkOk 7 xs = true) : decB xs = decK xs (xs.length / 7) := by simp [decB, h]
theorem fixB_no {xs : List Int} (h : blkOk 7 xs = false) : fixB xs = 0 := by simp [fixB, h]
theorem fixB_yes {xs : List Int} (h : blkOk 7 xs = true) : fixB xs = fixK xs (xs.length / 7) := by simp [fixB, h]

theorem makeC0 (n : Nat) (hn : n ≤ 1024) (w : World) : (Instr.makeSlice 23 (.int .i64 0) (.int .i64 (n : Int))).run Tryd.prog w = .ok (.slice (some ⟨w.heap.size, 0, none⟩) 0 n) (w.alloc (.cells (madeCells #[.int .i64 0] n) 3)) := by
  obtain ⟨i0, hi0, hz0, hz1, hz2⟩ := info_parts Tryd.infoInt
  have h := run_make (P := Tryd.prog) w 23 3 i0 (.int .i64 0) Tryd.underlying23 hi0 hz0 .i64 .i64 0 (n : Int) (by omega) (by omega) (by rw [hz2]; omega) (by omega)
  rw [hz1, Nat.mul_one] at h
  exact h
theorem Grow.madeC0 (w : World) (base n : Nat) (hn : n ≤ 1024) (hb : base ≤ w.heap.size) : Grow .i64 3 (w.alloc (.cells (madeCells #[.int .i64 0] n) 3)) base (some ⟨w.heap.size, 0, none⟩) 0 n [] :=
  World.ownsRow_made (base := base) (e := 3) (size := 1) w (madeCells #[.int .i64 0] n) n hb (by unfold maxLen; omega) (by simp [size_madeCells])

/-- A new list that may be appended to. -/
def GrownList (xs : List Int) (w : World) (e : Ending) (w' : World) : Prop :=
  ∃ a n cap, e = .returned (.slice a n cap) ∧ Grow .i64 3 w' w.heap.size a n cap xs ∧ Below w.heap.size w w'
theorem GrownList.post {xs : List Int} {w w' : World} {e : Ending} (h : GrownList xs w e w') : ListPostC xs w e w' := by
  obtain ⟨a, n, cap, rfl, h1, h2⟩ := h
  exact listPostC_grow h1 h2
set_option maxHeartbeats 1000000 in
theorem encodeBlocks_grow (a : Option Addr) (c : Nat) (xs : List Int) (w : World) (hx : Ints .i64 w w.heap.size a xs) (hc : xs.length ≤ c) :
    Calls Tryd.prog 5 #[.slice a xs.length c] w (GrownList (encB xs) w) := by
  have hv := blocksValid_any a c w.heap.size 4 xs w hx (Nat.le_refl _) (.inl rfl)
  have HX := Lib.hid hx
  clear hx
  cases hok : blkOk 4 xs
  · rw [hok] at hv
    have HE := Lib.hid (encB_no hok)
    have HV := Lib.hid hv
    clear hv hok
    go_enter Tryd.func5, Tryd.ntmps5
    go_wp2_with (go_at_call 16; refine HV.out.mono ?_; rintro e w1 ⟨rfl, b1⟩; have B1 := Lib.hid b1; clear b1)
    go_ret
    rw [HE.out]
    exact ⟨_, _, _, rfl, Grow.nil _ _ _ _, B1.out⟩
  · rw [hok] at hv
    obtain ⟨hbo, hmod, hlen⟩ := blkOk_parts hok
    have HE := Lib.hid (encB_yes hok)
    have HBi := Lib.hid (bitsOk_all hbo)
    have HV := Lib.hid hv
    obtain ⟨N, hN⟩ : ∃ N, N = xs.length / 4 := ⟨_, rfl⟩
    have hN4 : xs.length = 4 * N := by omega
    rw [← hN] at HE
    have hN128 : N ≤ 128 := by omega
    have HN4 := Lib.hid hN4
    have hmk : ∀ W, (Instr.makeSlice 23 (.int .i64 0) (.int .i64 ((xs.length : Int) / 4 * 7))).run Tryd.prog W = .ok (.slice (some ⟨W.heap.size, 0, none⟩) 0 (7 * N)) (W.alloc (.cells (madeCells #[.int .i64 0] (7 * N)) 3)) := fun W => by
      rw [show (xs.length : Int) / 4 * 7 = ((7 * N : Nat) : Int) by omega]; exact makeC0 (7 * N) (by omega) W
    clear hN4 hN128
    clear hv hok hbo hmod hN
    go_enter Tryd.func5, Tryd.ntmps5
    go_wp2_with (go_at_call 16; refine HV.out.mono ?_; rintro e w1 ⟨rfl, b1⟩; have B1 := Lib.hid b1; have s1 : w.heap.size ≤ w1.heap.size := b1.size; clear b1)
    clear hmk HV
    go_loopw [3, 4] (fun s i wr => ∃ (j k n : Nat) (v : Option Addr) (cap : Nat), (j = 4 * k ∧ n = 7 * k ∧ k ≤ N) ∧ i = .int .i64 j ∧ s = .slice v n cap ∧ Grow .i64 3 wr w.heap.size v n cap (encK xs k) ∧ Below w.heap.size w wr) (fun _ i _ => xs.length - (intOf i).toNat)
    case atStart => exact ⟨0, 0, 0, _, _, ⟨rfl, rfl, Nat.zero_le _⟩, rfl, rfl, Grow.madeC0 _ _ _ (by have := HN4.out; omega) s1, B1.out.alloc s1 _⟩
    case round =>
      obtain ⟨j, k, n, v, cap, ⟨hj, hn, hk⟩, rfl, rfl, hgr, hbel⟩ := hrel
      have HG := Lib.hid hgr
      have HBe := Lib.hid hbel
      have hsz : w.heap.size ≤ wr.heap.size := hbel.size
      have hn9 : n ≤ 896 := by have := HN4.out; omega
      clear hgr hbel
      by_cases hlt : j < xs.length
      · have hkN : 4 * k + 4 ≤ xs.length := by have := HN4.out; omega
        have hj4 : j + 4 ≤ xs.length := by omega
        obtain ⟨b, off, rfl, hbb, _⟩ := HX.out (by intro e; rw [e] at hlt; simp at hlt)
        have h2 := encodeNibble_any (some ⟨b, off + 4 * k, none⟩) (c - j) w.heap.size (part 4 xs k) wr (part_ints (HX.out.below HBe.out) hkN) hsz
        rw [part_length hkN, encOr_yes (nibOk_mk (part_length hkN) (part_bits HBi.out)), ← hj] at h2
        have HQ := Lib.hid h2
        have HR := Lib.hid (show j + 4 = 4 * (k + 1) ∧ n + 7 = 7 * (k + 1) ∧ k + 1 ≤ N from ⟨by omega, by omega, by have := HN4.out; omega⟩)
        clear h2 hkN hj hn hk
        go_wp2_with (first
          | (go_at_call 17; refine HQ.out.mono ?_; rintro e w2 ⟨v2, cv2, rfl, _, o2, b2⟩; have I2 := Lib.hid (own_of_list o2).ints; have G2 := Lib.hid (HG.out.below b2); have B2 := Lib.hid (Below.next HBe.out (Nat.le_refl _) b2); have s2 : w.heap.size ≤ w2.heap.size := (by have := b2.size; omega); rw [encW_length]; clear o2 b2)
          | (at_builtin; refine wpList_appendA (.tmp 19) (.tmp 25) w.heap.size v v2 n cap 7 cv2 w2.heap.size (encK xs k) (encW (part 4 xs k)) rfl rfl rfl rfl G2.out I2.out (encW_length _) (by omega) s2 ?_; intro a3 cap3 w3 hg3 hb3 _; have HG3 := Lib.hid hg3; have HB3 := Lib.hid (B2.out.trans hb3); clear hg3 hb3))
        go_roundw
        case rel => exact ⟨j + 4, k + 1, n + 7, a3, cap3, HR.out, by go_num, rfl, HG3.out, HB3.out⟩
        case measure => simp [intOf]; omega
      · have HK := Lib.hid (show k = N by have := HN4.out; omega)
        clear hj hn hk
        go_wp2
        go_ret
        rw [HE.out, ← HK.out]
        exact ⟨_, _, _, rfl, HG.out, HBe.out⟩
theorem encodeBlocks_any (a : Option Addr) (c : Nat) (xs : List Int) (w : World) (hx : Ints .i64 w w.heap.size a xs) (hc : xs.length ≤ c) :
    Calls Tryd.prog 5 #[.slice a xs.length c] w (ListPostC (encB xs) w) :=
  (encodeBlocks_grow a c xs w hx hc).mono fun _ _ h => h.post

/-- What DecodeBlocks leaves. -/
def DecBPost (xs : List Int) (w : World) (e : Ending) (w' : World) : Prop :=
  ∃ a cap, e = .returned (.tuple #[.slice a (decB xs).length cap, .int .i64 (fixB xs : Nat)]) ∧ ((decB xs).length ≤ cap ∧ cap ≤ maxLen) ∧ OwnInts .i64 3 w' w.heap.size a (decB xs) ∧ Below w.heap.size w w'
theorem decBPost_mk {xs zs : List Int} {w w' : World} {a : Option Addr} {n cap f : Nat} (hz : decB xs = zs) (hf : fixB xs = f) (h : ListPostC zs w (.returned (.slice a n cap)) w') : DecBPost xs w (.returned (.tuple #[.slice a n cap, .int .i64 (f : Int)])) w' := by
  obtain ⟨a', cap', e, h1, h2, h3⟩ := h
  injection e with e
  injection e with e1 e2 e3
  subst e1 e2 e3
  unfold DecBPost
  rw [hz, hf]
  exact ⟨a, cap, rfl, h1, h2, h3⟩
theorem decOr_yes {xs : List Int} (h : wordOk xs = true) : decOr xs = decW xs := by simp [decOr, h]
theorem fixOr_yes {xs : List Int} (h : wordOk xs = true) : fixOr xs = decide (syn xs ≠ 0) := by simp [fixOr, h]
set_option maxHeartbeats 1000000 in
theorem decodeBlocks_any (a : Option Addr) (c : Nat) (xs : List Int) (w : World) (hx : Ints .i64 w w.heap.size a xs) (hc : xs.length ≤ c) (hS : SynTab w) (hC : CorTab w) :
    Calls Tryd.prog 10 #[.slice a xs.length c] w (DecBPost xs w) := by
  have hv := blocksValid_any a c w.heap.size 7 xs w hx (Nat.le_refl _) (.inr rfl)
  have HX := Lib.hid hx
  have HS := Lib.hid hS
  have HC := Lib.hid hC
  clear hx hS hC
  cases hok : blkOk 7 xs
  · rw [hok] at hv
    have HE := Lib.hid (decB_no hok)
    have HF := Lib.hid (fixB_no hok)
    have HV := Lib.hid hv
    clear hv hok
    go_enter Tryd.func10, Tryd.ntmps10
    go_wp2_with (go_at_call 16; refine HV.out.mono ?_; rintro e w1 ⟨rfl, b1⟩; have B1 := Lib.hid b1; clear b1)
    go_ret2
    exact decBPost_mk HE.out HF.out (listPostC_nil B1.out)
  · rw [hok] at hv
    obtain ⟨hbo, hmod, hlen⟩ := blkOk_parts hok
    have HE := Lib.hid (decB_yes hok)
    have HF := Lib.hid (fixB_yes hok)
    have HBi := Lib.hid (bitsOk_all hbo)
    have HV := Lib.hid hv
    obtain ⟨N, hN⟩ : ∃ N, N = xs.length / 7 := ⟨_, rfl⟩
    have hN4 : xs.length = 7 * N := by omega
    rw [← hN] at HE HF
    have HN4 := Lib.hid hN4
    have hmk : ∀ W, (Instr.makeSlice 23 (.int .i64 0) (.int .i64 ((xs.length : Int) / 7 * 4))).run Tryd.prog W = .ok (.slice (some ⟨W.heap.size, 0, none⟩) 0 (4 * N)) (W.alloc (.cells (madeCells #[.int .i64 0] (4 * N)) 3)) := fun W => by
      rw [show (xs.length : Int) / 7 * 4 = ((4 * N : Nat) : Int) by omega]; exact makeC0 (4 * N) (by omega) W
    clear hN4
    clear hv hok hbo hmod hN
    go_enter Tryd.func10, Tryd.ntmps10
    go_wp2_with (go_at_call 16; refine HV.out.mono ?_; rintro e w1 ⟨rfl, b1⟩; have B1 := Lib.hid b1; have s1 : w.heap.size ≤ w1.heap.size := b1.size; clear b1)
    clear hmk HV
    go_loopw [4, 5, 6] (fun s f i wr => ∃ (j k n m : Nat) (v : Option Addr) (cap : Nat), (j = 7 * k ∧ n = 4 * k ∧ k ≤ N ∧ m = fixK xs k) ∧ i = .int .i64 j ∧ s = .slice v n cap ∧ f = .int .i64 m ∧ Grow .i64 3 wr w.heap.size v n cap (decK xs k) ∧ Below w.heap.size w wr) (fun _ _ i _ => xs.length - (intOf i).toNat)
    case atStart => exact ⟨0, 0, 0, 0, _, _, ⟨rfl, rfl, Nat.zero_le _, rfl⟩, rfl, rfl, rfl, Grow.madeC0 _ _ _ (by have := HN4.out; omega) s1, B1.out.alloc s1 _⟩
    case round =>
      obtain ⟨j, k, n, m, v, cap, ⟨hj, hn, hk, hm⟩, rfl, rfl, rfl, hgr, hbel⟩ := hrel
      have HG := Lib.hid hgr
      have HBe := Lib.hid hbel
      have hsz : w.heap.size ≤ wr.heap.size := hbel.size
      have hn9 : n ≤ 512 := by have := HN4.out; omega
      have hm9 : m ≤ 128 := by have := fixK_le xs k; have := HN4.out; omega
      clear hgr hbel
      by_cases hlt : j < xs.length
      · have hkN : 7 * k + 7 ≤ xs.length := by have := HN4.out; omega
        have hj4 : j + 7 ≤ xs.length := by omega
        obtain ⟨b, off, rfl, hbb, _⟩ := HX.out (by intro e; rw [e] at hlt; simp at hlt)
        have hw : wordOk (part 7 xs k) = true := wordOk_mk (part_length hkN) (part_bits HBi.out)
        have h2 := decodeNibble_any (some ⟨b, off + 7 * k, none⟩) (c - j) w.heap.size (part 7 xs k) wr (part_ints (HX.out.below HBe.out) hkN) hsz (HS.out.next HBe.out) (HC.out.next HBe.out)
        unfold DecPost at h2
        rw [part_length hkN, decOr_yes hw, fixOr_yes hw, decW_length, ← hj] at h2
        have HQ := Lib.hid h2
        have HR := Lib.hid (show j + 7 = 7 * (k + 1) ∧ n + 4 = 4 * (k + 1) ∧ k + 1 ≤ N from ⟨by omega, by omega, by have := HN4.out; omega⟩)
        have HM := Lib.hid hm
        clear h2 hkN hj hn hk hw hm
        by_cases hs : syn (part 7 xs k) = 0
        · have HF1 := Lib.hid (show m = fixK xs (k + 1) by rw [fixK, if_pos hs, HM.out]; rfl)
          rw [decide_eq_false (by simp [hs])] at HQ
          clear hs HM
          go_wp2_with (first
            | (go_at_call 23; refine HQ.out.mono ?_; rintro e w2 ⟨v2, cv2, rfl, _, o2, b2⟩; have I2 := Lib.hid (own_of_list o2).ints; have G2 := Lib.hid (HG.out.below b2); have B2 := Lib.hid (Below.next HBe.out (Nat.le_refl _) b2); have s2 : w.heap.size ≤ w2.heap.size := (by have := b2.size; omega); clear o2 b2)
            | (at_builtin; refine wpList_appendA (.tmp 32) (.tmp 33) w.heap.size v v2 n cap 4 cv2 w2.heap.size (decK xs k) (decW (part 7 xs k)) rfl rfl rfl rfl G2.out I2.out (decW_length _) (by omega) s2 ?_; intro a3 cap3 w3 hg3 hb3 _; have HG3 := Lib.hid hg3; have HB3 := Lib.hid (B2.out.trans hb3); clear hg3 hb3))
          go_roundw
          case rel => exact ⟨j + 7, k + 1, n + 4, m, a3, cap3, ⟨HR.out.1, HR.out.2.1, HR.out.2.2, HF1.out⟩, by go_num, rfl, rfl, HG3.out, HB3.out⟩
          case measure => simp [intOf]; omega
        · have HF1 := Lib.hid (show m + 1 = fixK xs (k + 1) by rw [fixK, if_neg hs, HM.out])
          rw [decide_eq_true hs] at HQ
          clear hs HM
          go_wp2_with (first
            | (go_at_call 23; refine HQ.out.mono ?_; rintro e w2 ⟨v2, cv2, rfl, _, o2, b2⟩; have I2 := Lib.hid (own_of_list o2).ints; have G2 := Lib.hid (HG.out.below b2); have B2 := Lib.hid (Below.next HBe.out (Nat.le_refl _) b2); have s2 : w.heap.size ≤ w2.heap.size := (by have := b2.size; omega); clear o2 b2)
            | (at_builtin; refine wpList_appendA (.tmp 32) (.tmp 33) w.heap.size v v2 n cap 4 cv2 w2.heap.size (decK xs k) (decW (part 7 xs k)) rfl rfl rfl rfl G2.out I2.out (decW_length _) (by omega) s2 ?_; intro a3 cap3 w3 hg3 hb3 _; have HG3 := Lib.hid hg3; have HB3 := Lib.hid (B2.out.trans hb3); clear hg3 hb3))
          go_roundw
          case rel => exact ⟨j + 7, k + 1, n + 4, m + 1, a3, cap3, ⟨HR.out.1, HR.out.2.1, HR.out.2.2, HF1.out⟩, by go_num, rfl, by go_num, HG3.out, HB3.out⟩
          case measure => simp [intOf]; omega
      · have HK := Lib.hid (show k = N by have := HN4.out; omega)
        have HM := Lib.hid hm
        clear hj hn hk hm
        go_wp2
        go_ret2
        exact decBPost_mk (HE.out.trans (by rw [HK.out])) (HF.out.trans (by rw [← HK.out, HM.out])) (listPostC_grow HG.out HBe.out)
end Go.Proofs.YtmhngakfjlkchaaDoor
