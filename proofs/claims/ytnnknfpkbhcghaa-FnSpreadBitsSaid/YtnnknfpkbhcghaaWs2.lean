/-
  What the codes, the spread bits and the sums of chips answer, for all arguments. Condition: lists that can be read.
-/
import Derived.Test.YtnnknfpkbhcghaaWs1
namespace Go.Proofs.Ytnnknfpkbhcghaa
open Go.RowKit

/-- A new list that may be appended to. -/
def NewW (xs : List Int) (w : World) (e : Ending) (w' : World) : Prop :=
  ∃ a n cap, e = .returned (.slice a n cap) ∧ Grow .i64 3 w' w.heap.size a n cap xs ∧ Below w.heap.size w w'
theorem NewW.post {xs : List Int} {w w' : World} {e : Ending} (h : NewW xs w e w') : ListPostC xs w e w' := by
  obtain ⟨a, n, cap, rfl, h1, h2⟩ := h
  exact listPostC_grow h1 h2
theorem growW_lit (w : World) (base : Nat) (x : Int) (hb : base ≤ w.heap.size) : Grow .i64 3 (w.alloc (.cells #[.int .i64 x] 3)) base (some ⟨w.heap.size, 0, none⟩) 1 1 [x] :=
  ⟨rfl, .inr ⟨w.heap.size, 1, #[.int .i64 x], rfl, hb, heap_alloc_last _ _, Nat.le_refl _, by unfold maxLen; omega, rfl, rfl⟩⟩
theorem w_nums {m : Nat} (h : m < 3) : ∃ H L : Nat, H = 2 ^ m ∧ L = 2 ^ (m + 1) ∧ L = 2 * H ∧ 1 ≤ H ∧ H ≤ 4 := by
  refine ⟨_, _, rfl, rfl, by rw [Nat.pow_succ]; omega, Nat.pos_of_ne_zero (by simp), ?_⟩
  have : m = 0 ∨ m = 1 ∨ m = 2 := by omega
  rcases this with rfl | rfl | rfl <;> decide
set_option maxHeartbeats 1000000 in
theorem walshChips_any (m : Nat) : ∀ (k : Nat) (w : World), m ≤ 3 → k < 2 ^ m → Calls Try.prog 39 #[.int .i64 k, .int .i64 ((2 ^ m : Nat) : Int)] w (NewW (wcL k m) w) := by
  induction m with
  | zero =>
    intro k w _ hk
    obtain rfl : k = 0 := by simpa using hk
    have HG := Lib.hid (growW_lit w w.heap.size 1 (Nat.le_refl _))
    have HB := Lib.hid (alloc_belowX w (.cells #[.int .i64 1] 3))
    rw [show ((2 ^ 0 : Nat) : Int) = 1 from rfl]
    go_enter Try.func39, Try.ntmps39
    go_wp2
    go_ret
    exact ⟨_, _, _, rfl, HG.out, HB.out⟩
  | succ m ih =>
    intro k w hm hk
    obtain ⟨H, L, hH, hL, hLH, h1, h4⟩ := w_nums (m := m) (by omega)
    rw [← hL]
    obtain ⟨r, hr⟩ : ∃ r, r = k % H := ⟨_, rfl⟩
    have hrl : r < H := by rw [hr]; exact Nat.mod_lt _ (by omega)
    have HI := Lib.hid (ih r w (by omega) (by rw [← hH]; exact hrl))
    rw [← hH] at HI
    have HC := Lib.hid (show wcL k (m + 1) = if k < H then wcL r m ++ wcL r m else wcL r m ++ scL (wcL r m) (-1) by rw [hr, hH]; rfl)
    have HP := Lib.hid (wcL_pm m r)
    have HLen := Lib.hid (show (wcL r m).length ≤ 1000 by rw [wcL_length, ← hH]; omega)
    have e1 : ((L : Int) == 1) = false := by rw [beq_eq_false_iff_ne]; omega
    have e2 : (L : Int) / 2 = (H : Int) := by omega
    have e3 : (k : Int).tmod (H : Int) = (r : Int) := by rw [Int.tmod_eq_emod_of_nonneg (by omega), hr]; rfl
    have hL8 : L ≤ 8 := by omega
    have hk8 : k < 8 := by rw [← hL] at hk; omega
    have hH0 : ¬ H = 0 := by omega
    have hH0' : ((H : Int) == 0) = false := by rw [beq_eq_false_iff_ne]; omega
    have e2' : wrap64 ((L : Int) / 2) = (H : Int) := by rw [e2]; exact wrapW' (by omega)
    clear ih hm hk hH hL hr
    generalize wcL r m = xs at *
    by_cases hlt : k < H
    · rw [if_pos hlt] at HC
      clear hLH
      go_enter Try.func39, Try.ntmps39
      go_wp2_with (first
        | (go_at_call 39; (with_reducible refine HI.out.mono ?_); rintro e w2 ⟨a2, n2, cap2, rfl, g2, b2⟩; have G2 := Lib.hid g2; have I2 := Lib.hid g2.ints; have N2 := Lib.hid g2.len; have B2 := Lib.hid b2; have hn2 : n2 ≤ 1000 := (by have := HLen.out; have := g2.len; omega); clear g2 b2)
        | (at_builtin; refine wpList_appendA (.tmp 20) (.tmp 21) w.heap.size a2 a2 n2 cap2 n2 cap2 w2.heap.size xs xs rfl rfl rfl rfl G2.out I2.out N2.out (by omega) B2.out.size ?_; intro a3 cap3 w3 hg3 hb3 _; have HG3 := Lib.hid hg3; have HB3 := Lib.hid (B2.out.trans hb3); clear hg3 hb3))
      go_ret
      rw [HC.out]
      exact ⟨_, _, _, rfl, HG3.out, HB3.out⟩
    · rw [if_neg hlt] at HC
      clear hLH
      go_enter Try.func39, Try.ntmps39
      go_wp2_with (first
        | (go_at_call 39; (with_reducible refine HI.out.mono ?_); rintro e w2 ⟨a2, n2, cap2, rfl, g2, b2⟩; have G2 := Lib.hid g2; have N2 := Lib.hid g2.len; have hn2 : n2 ≤ 1000 := (by have := HLen.out; have := g2.len; omega); have S2 := Lib.hid (scaled_any a2 cap2 xs (-1) w2 g2.ints HP.out (by omega) HLen.out); rw [N2.out] at S2; have B2 := Lib.hid b2; clear g2 b2)
        | (go_at_call 46; (with_reducible refine S2.out.mono ?_); rintro e w3 ⟨a3, cap3, rfl, _, o3, b3⟩; have G3 := Lib.hid (G2.out.below b3); have I3 := Lib.hid (own_of_list o3).ints; have B3 := Lib.hid (Below.next B2.out (Nat.le_refl _) b3); rw [scL_length, N2.out]; clear o3 b3)
        | (at_builtin; refine wpList_appendA (.tmp 23) (.tmp 25) w.heap.size a2 a3 n2 cap2 n2 cap3 w3.heap.size xs (scL xs (-1)) rfl rfl rfl rfl G3.out I3.out ((scL_length _ _).trans N2.out) (by omega) B3.out.size ?_; intro a4 cap4 w4 hg4 hb4 _; have HG4 := Lib.hid hg4; have HB4 := Lib.hid (B3.out.trans hb4); clear hg4 hb4))
      go_ret
      rw [HC.out]
      exact ⟨_, _, _, rfl, HG4.out, HB4.out⟩
theorem walsh8_any (k : Nat) (w : World) (hk : k < 8) : Calls Try.prog 39 #[.int .i64 k, .int .i64 8] w (NewW (wal k) w) := by
  rw [← wcL_wal k hk]
  exact walshChips_any 3 k w (Nat.le_refl _) hk
set_option maxHeartbeats 1000000 in
theorem walshCode_any (k : Int) (w : World) : Calls Try.prog 15 #[.int .i64 k] w (ListPostC (walOr k) w) := by
  cases hk : kOk k
  · have H1 := Lib.hid (codeNumberValid_is k false w hk)
    have HE := Lib.hid (walOr_no (kOk_no hk))
    clear hk
    go_enter Try.func15, Try.ntmps15
    go_wp2_with (go_at_call 38; ((with_reducible refine H1.out.mono ?_); rintro e w' ⟨rfl, rfl⟩))
    go_ret
    rw [HE.out]
    exact listPostC_nil (Below.refl _ _)
  · have H1 := Lib.hid (codeNumberValid_is k true w hk)
    obtain ⟨K, hK, rfl⟩ := kOk_nat hk
    have HE := Lib.hid (walOr_yes hK)
    have H2 := Lib.hid (walsh8_any K w hK)
    clear hk hK
    go_enter Try.func15, Try.ntmps15
    go_wp2_with (first
      | (go_at_call 38; ((with_reducible refine H1.out.mono ?_); rintro e w' ⟨rfl, rfl⟩))
      | (go_at_call 39; ((with_reducible refine H2.out.mono ?_); rintro e w2 hp; have H3 := Lib.hid hp.post; obtain ⟨a2, n2, cap2, rfl, _, _⟩ := hp)))
    go_ret
    rw [HE.out]
    exact H3.out
theorem makeW0 (n : Nat) (hn : n ≤ 1024) (w : World) : (Instr.makeSlice 24 (.int .i64 0) (.int .i64 (n : Int))).run Try.prog w = .ok (.slice (some ⟨w.heap.size, 0, none⟩) 0 n) (w.alloc (.cells (madeCells #[.int .i64 0] n) 3)) := by
  obtain ⟨i0, hi0, hz0, hz1, hz2⟩ := info_parts Try.infoInt
  have h := run_make (P := Try.prog) w 24 3 i0 (.int .i64 0) Try.underlying24 hi0 hz0 .i64 .i64 0 (n : Int) (by omega) (by omega) (by rw [hz2]; omega) (by omega)
  rw [hz1, Nat.mul_one] at h
  exact h
theorem growW_made (w : World) (base n : Nat) (hn : n ≤ 1024) (hb : base ≤ w.heap.size) : Grow .i64 3 (w.alloc (.cells (madeCells #[.int .i64 0] n) 3)) base (some ⟨w.heap.size, 0, none⟩) 0 n [] :=
  World.ownsRow_made (base := base) (e := 3) (size := 1) w (madeCells #[.int .i64 0] n) n hb (by unfold maxLen; omega) (by simp [size_madeCells])
theorem bitEl_in {xs : List Int} (h : bitsOk xs = true) (i : Nat) : 0 ≤ el xs i ∧ el xs i ≤ 1 := by
  by_cases hi : i < xs.length
  · rcases bit_cases h hi with e | e <;> rw [e] <;> omega
  · rw [el_out (by omega)]; omega
set_option maxHeartbeats 2000000 in
theorem spreadBits_any (a : Option Addr) (c : Nat) (xs : List Int) (k : Int) (w : World) (hx : Ints .i64 w w.heap.size a xs) :
    Calls Try.prog 20 #[.slice a xs.length c, .int .i64 k] w (ListPostC (sprOr xs k) w) := by
  have HX := Lib.hid hx
  clear hx
  cases hk : kOk k
  · have H1 := Lib.hid (codeNumberValid_is k false w hk)
    have HE := Lib.hid (sprOr_no (bs := xs) fun h => kOk_no hk h.2.2)
    clear hk
    go_enter Try.func20, Try.ntmps20
    go_wp2_with (go_at_call 38; ((with_reducible refine H1.out.mono ?_); rintro e w' ⟨rfl, rfl⟩))
    go_ret
    rw [HE.out]
    exact listPostC_nil (Below.refl _ _)
  · have H1 := Lib.hid (codeNumberValid_is k true w hk)
    by_cases hl : xs.length ≤ 32
    · have hl' : ¬ (32 : Int) < (xs.length : Int) := by omega
      have hv := bitsValid_any a c w.heap.size xs w HX.out (Nat.le_refl _)
      cases hok : bitsOk xs
      · rw [hok] at hv
        have HE := Lib.hid (sprOr_no (bs := xs) (k := k) fun h => by rw [hok] at h; exact absurd h.1 (by decide))
        have H2 := Lib.hid hv
        clear hv hk hok hl
        go_enter Try.func20, Try.ntmps20
        go_wp2_with (first
          | (go_at_call 38; ((with_reducible refine H1.out.mono ?_); rintro e w' ⟨rfl, rfl⟩))
          | (go_at_call 45; ((with_reducible refine H2.out.mono ?_); rintro e w2 ⟨rfl, b2⟩; have B2 := Lib.hid b2; clear b2)))
        go_ret
        rw [HE.out]
        exact listPostC_nil B2.out
      · rw [hok] at hv
        obtain ⟨K, hK, rfl⟩ := kOk_nat hk
        have HE := Lib.hid ((sprOr_yes hok hl hK).trans (spP_done xs K).symm)
        have HL := Lib.hid hl
        have HBi := Lib.hid (bitEl_in hok)
        have H2 := Lib.hid hv
        have H3 := Lib.hid (fun W => walsh8_any K W hK)
        have HP := Lib.hid (wal_pm hK)
        have HN := Lib.hid (fun i => spP_next (bs := xs) (k := K) (i := i))
        have HWl := Lib.hid (wal_length K)
        obtain ⟨N, hN⟩ : ∃ N, N = xs.length * 8 := ⟨_, rfl⟩
        have hmk : ∀ W, (Instr.makeSlice 24 (.int .i64 0) (.int .i64 ((xs.length : Int) * 8))).run Try.prog W = .ok (.slice (some ⟨W.heap.size, 0, none⟩) 0 N) (W.alloc (.cells (madeCells #[.int .i64 0] N) 3)) := fun W => by
          rw [show (xs.length : Int) * 8 = (N : Int) by omega]; exact makeW0 N (by omega) W
        have hN32 : N ≤ 256 := by omega
        clear hv hk hok hl hK hN
        generalize wal K = ws at *
        go_enter Try.func20, Try.ntmps20
        go_wp2_with (first
          | (go_at_call 38; ((with_reducible refine H1.out.mono ?_); rintro e w' ⟨rfl, rfl⟩))
          | (go_at_call 45; ((with_reducible refine H2.out.mono ?_); rintro e w2 ⟨rfl, b2⟩; have B2 := Lib.hid b2; have s2 : w.heap.size ≤ w2.heap.size := b2.size; clear b2))
          | (go_at_call 39; ((with_reducible refine (H3.out _).mono ?_); rintro e w3 ⟨a3, n3, cap3, rfl, g3, b3⟩; have I3 := Lib.hid g3.ints; have N3 := Lib.hid (show n3 = 8 from g3.len.symm.trans HWl.out); have B3 := Lib.hid (Below.next B2.out (Nat.le_refl _) b3); have s3 : w.heap.size ≤ w3.heap.size := (by have := b3.size; omega); clear g3 b3)))
        obtain rfl := N3.out
        have G4 := Lib.hid (growW_made w3 w3.heap.size N (by omega) (Nat.le_refl _))
        have B4 := Lib.hid (alloc_belowX w3 (.cells (madeCells #[.int .i64 0] N) 3))
        have X3 := Lib.hid (HX.out.next B3.out)
        clear hmk H1 H2 H3 HX
        go_loopw [6, 30] (fun s i wr => ∃ (j n : Nat) (v : Option Addr) (cap : Nat), (j ≤ xs.length ∧ n = 8 * j) ∧ i = .int .i64 j ∧ s = .slice v n cap ∧ Grow .i64 3 wr w3.heap.size v n cap (spP xs K j) ∧ Below w3.heap.size w3 wr) (fun _ i _ => xs.length - (intOf i).toNat)
        case atStart => exact ⟨0, 0, _, _, ⟨Nat.zero_le _, rfl⟩, rfl, rfl, G4.out, B4.out⟩
        case round =>
          obtain ⟨j, n, v, cap, ⟨hj, hn⟩, rfl, rfl, hgr, hbel⟩ := hrel
          have HG := Lib.hid hgr
          have HB := Lib.hid hbel
          have hsz : w3.heap.size ≤ wr.heap.size := hbel.size
          have hj32 : j ≤ 32 := Nat.le_trans hj HL.out
          clear hgr hbel G4 B4
          by_cases hlt : j < xs.length
          · have hxw := X3.out.next HB.out
            obtain ⟨b, off, rfl, hb, hc⟩ := hxw.at_ hlt
            obtain ⟨h0, h1⟩ := HBi.out j
            have HNj := Lib.hid (HN.out j)
            have HS := Lib.hid (fun (hf : -1 ≤ 2 * el xs j - 1 ∧ 2 * el xs j - 1 ≤ 1) => scaled_any a3 cap3 ws (2 * el xs j - 1) wr (I3.out.next HB.out) HP.out hf (by rw [HWl.out]; decide))
            rw [HWl.out] at HS
            generalize el xs j = x at *
            have HS2 := Lib.hid (HS.out (by omega))
            have HN8 := Lib.hid (show n + 8 = 8 * (j + 1) by omega)
            have hn9 : n ≤ 1000 := by omega
            clear hxw hb HS hn
            go_wp2_with (first
              | (go_at_call 46; (with_reducible refine HS2.out.mono ?_); rintro e w5 ⟨a5, cap5, rfl, _, o5, b5⟩; have G5 := Lib.hid (HG.out.below b5); have I5 := Lib.hid (own_of_list o5).ints; have B5 := Lib.hid (Below.next HB.out (Nat.le_refl _) b5); rw [scL_length, HWl.out]; clear o5 b5)
              | (at_builtin; refine wpList_appendA (.tmp 34) (.tmp 39) w3.heap.size v a5 n cap 8 cap5 w5.heap.size (spP xs K j) (scL ws (2 * x - 1)) rfl rfl rfl rfl G5.out I5.out ((scL_length _ _).trans HWl.out) (by omega) B5.out.size ?_; intro a6 cap6 w6 hg6 hb6 _; have HG6 := Lib.hid hg6; have HB6 := Lib.hid (B5.out.trans hb6); clear hg6 hb6))
            go_roundw
            case rel => exact ⟨j + 1, n + 8, a6, cap6, ⟨by omega, HN8.out⟩, by go_num, rfl, by rw [HNj.out]; exact HG6.out, HB6.out⟩
            case measure => simp [intOf]; omega
          · obtain rfl : xs.length = j := by omega
            clear hn
            go_wp2
            go_ret
            rw [HE.out]
            exact listPostC_grow (HG.out.base_le s3) (Below.next B3.out (Nat.le_refl _) HB.out)
    · have HE := Lib.hid (sprOr_no (bs := xs) (k := k) fun h => hl h.2.1)
      have hl' : (32 : Int) < (xs.length : Int) := by omega
      clear hk hl
      go_enter Try.func20, Try.ntmps20
      go_wp2_with (go_at_call 38; ((with_reducible refine H1.out.mono ?_); rintro e w' ⟨rfl, rfl⟩))
      go_ret
      rw [HE.out]
      exact listPostC_nil (Below.refl _ _)
set_option maxHeartbeats 2000000 in
theorem addChips_any (a a' : Option Addr) (c c' : Nat) (xs ys : List Int) (w : World) (hx : Ints .i64 w w.heap.size a xs) (hy : Ints .i64 w w.heap.size a' ys) :
    Calls Try.prog 22 #[.slice a xs.length c, .slice a' ys.length c'] w (ListPostC (adOr xs ys) w) := by
  have HX := Lib.hid hx
  have HY := Lib.hid hy
  clear hx hy
  by_cases hl : xs.length = ys.length
  · have z : ((xs.length : Int) != (ys.length : Int)) = false := by rw [bne_eq_false_iff_eq]; omega
    cases h1 : chW 1000 xs
    · have H1 := Lib.hid (chipsValid_is a c _ xs 1000 false w HX.out (by omega) h1)
      have HE := Lib.hid (adOr_no (xs := xs) (ys := ys) fun h => by simp [chW, h.2.1, h.2.2.1] at h1)
      clear hl h1
      go_enter Try.func22, Try.ntmps22
      go_wp2_with (go_at_call 48; ((with_reducible refine H1.out.mono ?_); rintro e w' ⟨rfl, rfl⟩))
      go_ret
      rw [HE.out]
      exact listPostC_nil (Below.refl _ _)
    · have H1 := Lib.hid (chipsValid_is a c _ xs 1000 true w HX.out (by omega) h1)
      cases h2 : chW 1000 ys
      · have H2 := Lib.hid (chipsValid_is a' c' _ ys 1000 false w HY.out (by omega) h2)
        have HE := Lib.hid (adOr_no (xs := xs) (ys := ys) fun h => by simp [chW, ← h.1, h.2.1, h.2.2.2] at h2)
        clear hl h1 h2
        go_enter Try.func22, Try.ntmps22
        go_wp2_with (first | (go_at_call 48; ((with_reducible refine H1.out.mono ?_); rintro e w' ⟨rfl, rfl⟩)) | (go_at_call 48; ((with_reducible refine H2.out.mono ?_); rintro e w' ⟨rfl, rfl⟩)))
        go_ret
        rw [HE.out]
        exact listPostC_nil (Below.refl _ _)
      · have H2 := Lib.hid (chipsValid_is a' c' _ ys 1000 true w HY.out (by omega) h2)
        obtain ⟨p1, p2⟩ := chW_parts h1
        obtain ⟨_, p3⟩ := chW_parts h2
        have HE := Lib.hid ((adOr_yes hl p1 p2 p3).trans (mkX_done (fun i => el xs i + el ys i) xs.length).symm)
        have HIn := Lib.hid (fun i => And.intro (chOk_in (by decide) p2 i) (chOk_in (by decide) p3 i))
        obtain ⟨F, hF⟩ : ∃ F : Nat → Int, F = fun i => el xs i + el ys i := ⟨_, rfl⟩
        rw [← hF] at HE
        have HFe := Lib.hid (fun i => show F i = el xs i + el ys i by rw [hF])
        have HL := Lib.hid p1
        have HYl := Lib.hid hl
        have hmk := makeX xs.length (by omega)
        have R0 := Lib.hid (rowX_made w F xs.length)
        have B0 := Lib.hid (alloc_belowX w (.cells (madeCells #[.int .i64 0] xs.length) 3))
        clear hl h1 h2 p1 p2 p3 hF
        go_enter Try.func22, Try.ntmps22
        go_wp2_with (first | (go_at_call 48; ((with_reducible refine H1.out.mono ?_); rintro e w' ⟨rfl, rfl⟩)) | (go_at_call 48; ((with_reducible refine H2.out.mono ?_); rintro e w' ⟨rfl, rfl⟩)))
        clear hmk z
        go_loopw [28] (fun i wr => ∃ k : Nat, k ≤ xs.length ∧ i = .int .i64 k ∧ RowX wr w.heap.size (mkX F xs.length k) ∧ Below w.heap.size w wr) (fun i _ => xs.length - (intOf i).toNat)
        case atStart => exact ⟨0, Nat.zero_le _, rfl, R0.out, B0.out⟩
        case round =>
          obtain ⟨k, hk, rfl, hrow, hbel⟩ := hrel
          have HR := Lib.hid hrow
          have HB := Lib.hid hbel
          have hk2 : k ≤ 256 := Nat.le_trans hk HL.out
          clear hrow hbel R0 B0
          by_cases hlt : k < xs.length
          · have hlt2 : k < ys.length := by have := HYl.out; omega
            obtain ⟨b, off, rfl, hb, hc⟩ := (HX.out.below HB.out).at_ hlt
            obtain ⟨b', off', rfl, hb', hc'⟩ := (HY.out.below HB.out).at_ hlt2
            have c0 := HR.out.cell (k := k) (by rw [mkX_length]; exact hlt)
            have f0 := HR.out.frozen k
            have HS := HR.out.set (k := k) (by rw [mkX_length]; exact hlt) (F k)
            rw [mkX_set F hlt, HFe.out k] at HS
            have HS := Lib.hid HS
            have HB2 := Lib.hid (HB.out.setCell (p := ⟨w.heap.size, k, none⟩) (Nat.le_refl _) (.int .i64 (el xs k + el ys k)))
            obtain ⟨i1, i2⟩ := HIn.out k
            generalize el xs k = x at *
            generalize el ys k = y at *
            have q1 : IntKind.i64.wrap (x + y) = x + y := wrapW (by omega)
            have q1' : wrap64 (x + y) = x + y := wrapW' (by omega)
            clear i1 i2 hb hb'
            go_wp2
            go_roundw
            case rel => exact ⟨k + 1, by omega, by go_num, HS.out, HB2.out⟩
            case measure => simp [intOf]; omega
          · obtain rfl : xs.length = k := by omega
            go_wp2
            go_ret
            rw [HE.out]
            exact rowX_post HR.out (by rw [mkX_length]; have := HL.out; unfold maxLen; omega) (Nat.le_refl _) HB.out (by rw [mkX_length])
  · have HE := Lib.hid (adOr_no (xs := xs) (ys := ys) fun h => hl h.1)
    have z : ((xs.length : Int) != (ys.length : Int)) = true := by rw [bne_iff_ne]; omega
    clear hl
    go_enter Try.func22, Try.ntmps22
    go_wp2
    go_ret
    rw [HE.out]
    exact listPostC_nil (Below.refl _ _)
end Go.Proofs.Ytnnknfpkbhcghaa
