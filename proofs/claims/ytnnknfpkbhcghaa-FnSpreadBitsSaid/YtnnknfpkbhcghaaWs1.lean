/-
  What the tests of arguments, the product of a list with a number, the codes and the spread bits answer. Conditions: lists that can be read; the product: ones with a sign, at most 1000.
-/
import Derived.Test.YtnnknfpkbhcghaaWsMath
import Derived.Test.YtnnknfpkbhcghaaImpl1
import Derived.Test.YtnnknfpkbhcghaaAppendA
namespace Go.Proofs.Ytnnknfpkbhcghaa
open Go.RowKit

theorem wrapW {n : Int} (h : -1000000000000 ≤ n ∧ n ≤ 1000000000000) : IntKind.i64.wrap n = n := by rw [IntKind.wrap_i64]; omega
theorem wrapW' {n : Int} (h : -1000000000000 ≤ n ∧ n ≤ 1000000000000) : wrap64 n = n := by unfold wrap64; omega
def kOk (k : Int) : Bool := decide (0 ≤ k) && decide (k ≤ 7)
theorem kOk_nat {k : Int} (h : kOk k = true) : ∃ n : Nat, n < 8 ∧ k = (n : Int) := by
  simp only [kOk, Bool.and_eq_true, decide_eq_true_eq] at h
  exact ⟨k.toNat, by omega, by omega⟩
theorem kOk_no {k : Int} (h : kOk k = false) : ¬ (0 ≤ k ∧ k ≤ 7) := by
  intro h2
  simp [kOk, h2.1, h2.2] at h
theorem kOk_of {n : Nat} (h : n < 8) : kOk (n : Int) = true := by
  simp [kOk]; omega
theorem codeNumberValid_any (k : Int) (w : World) : Calls Try.prog 38 #[.int .i64 k] w fun e w' => e = .returned (.bool (kOk k)) ∧ w = w' := by
  by_cases h1 : 0 ≤ k
  · by_cases h2 : k < 8
    · go_enter Try.func38, Try.ntmps38
      go_wp2
      go_ret
      exact ⟨ret_bool (by simp only [kOk, decide_eq_true h1, decide_eq_true (show k ≤ 7 by omega), Bool.and_self]), rfl⟩
    · go_enter Try.func38, Try.ntmps38
      go_wp2
      go_ret
      exact ⟨ret_bool (by simp only [kOk, decide_eq_false (show ¬ k ≤ 7 by omega), Bool.and_false]), rfl⟩
  · go_enter Try.func38, Try.ntmps38
    go_wp2
    go_ret
    exact ⟨ret_bool (by simp only [kOk, decide_eq_false (show ¬ 0 ≤ k by omega), Bool.false_and]), rfl⟩
theorem codeNumberValid_is (k : Int) (b : Bool) (w : World) (h : kOk k = b) : Calls Try.prog 38 #[.int .i64 k] w fun e w' => e = .returned (.bool b) ∧ w = w' := by
  subst h; exact codeNumberValid_any k w
/-- The test of chips. -/
def chW (M : Int) (xs : List Int) : Bool := decide (xs.length ≤ 256) && chOk M xs
def chTo (M : Int) (xs : List Int) (k : Nat) : Prop := ∀ i, i < k → -M ≤ el xs i ∧ el xs i ≤ M
theorem chW_long {M : Int} {xs : List Int} (h : ¬ xs.length ≤ 256) : chW M xs = false := by simp [chW, h]
theorem chW_bad {M : Int} {xs : List Int} {i : Nat} (hi : i < xs.length) (h : ¬ (-M ≤ el xs i ∧ el xs i ≤ M)) : chW M xs = false := by simp [chW, chOk_bad hi h]
theorem chW_good {M : Int} {xs : List Int} (hl : xs.length ≤ 256) (h : chTo M xs xs.length) : chW M xs = true := by simp [chW, chOk_good h, hl]
theorem chW_parts {M : Int} {xs : List Int} (h : chW M xs = true) : xs.length ≤ 256 ∧ chOk M xs = true := by simpa [chW] using h
theorem chTo_next {M : Int} {xs : List Int} {k : Nat} (h : chTo M xs k) (hk : -M ≤ el xs k ∧ el xs k ≤ M) : chTo M xs (k + 1) := fun i hi => by
  by_cases e : i = k
  · subst e; exact hk
  · exact h i (by omega)
set_option maxHeartbeats 1000000 in
theorem chipsValid_any (a : Option Addr) (c B : Nat) (xs : List Int) (M : Int) (w : World) (hx : Ints .i64 w B a xs) (hM : 0 ≤ M ∧ M ≤ 8000) :
    Calls Try.prog 48 #[.slice a xs.length c, .int .i64 M] w fun e w' => e = .returned (.bool (chW M xs)) ∧ w = w' := by
  have HX := Lib.hid hx
  clear hx
  by_cases hl : xs.length ≤ 256
  · have HL := Lib.hid hl
    have HM := Lib.hid (And.intro (wrapW (n := -M) (by omega)) (wrapW' (n := -M) (by omega)))
    have hl' : ¬ (256 : Int) < (xs.length : Int) := by omega
    clear hl hM
    go_enter Try.func48, Try.ntmps48
    go_wp2
    clear hl'
    go_loop [12] (fun i => ∃ k : Nat, k ≤ xs.length ∧ i = .int .i64 k ∧ chTo M xs k) (fun i => xs.length - (intOf i).toNat)
    case atStart => exact ⟨0, Nat.zero_le _, rfl, fun i hi => absurd hi (by omega)⟩
    case round =>
      obtain ⟨k, hk, rfl, hgood⟩ := hrel
      have HG := Lib.hid hgood
      have hk2 : k ≤ 256 := Nat.le_trans hk HL.out
      clear hgood
      by_cases hlt : k < xs.length
      · obtain ⟨b, off, rfl, hb, hc⟩ := HX.out.at_ hlt
        obtain ⟨x, hx⟩ : ∃ x, x = el xs k := ⟨_, rfl⟩
        rw [← hx] at hc
        by_cases h0 : x < -M
        · have HE := Lib.hid (chW_bad (M := M) hlt (by rw [← hx]; omega))
          obtain ⟨r1, r1'⟩ := HM.out
          clear hx
          go_wp2
          go_ret
          exact ⟨ret_bool HE.out.symm, rfl⟩
        · by_cases h1 : M < x
          · have HE := Lib.hid (chW_bad (M := M) hlt (by rw [← hx]; omega))
            obtain ⟨r1, r1'⟩ := HM.out
            clear hx
            go_wp2
            go_ret
            exact ⟨ret_bool HE.out.symm, rfl⟩
          · have HE := Lib.hid (chTo_next HG.out (by rw [← hx]; omega))
            obtain ⟨r1, r1'⟩ := HM.out
            clear hx
            go_wp2
            clear r1 r1'
            go_round
            case rel => exact ⟨k + 1, by omega, by go_num, HE.out⟩
            case measure => simp [intOf]; omega
      · obtain rfl : xs.length = k := by omega
        have HE := Lib.hid (chW_good HL.out HG.out)
        go_wp2
        go_ret
        exact ⟨ret_bool HE.out.symm, rfl⟩
  · have HE := Lib.hid (chW_long (M := M) hl)
    have hl' : (256 : Int) < (xs.length : Int) := by omega
    clear hl hM
    go_enter Try.func48, Try.ntmps48
    go_wp2
    go_ret
    exact ⟨ret_bool HE.out.symm, rfl⟩
theorem chipsValid_is (a : Option Addr) (c B : Nat) (xs : List Int) (M : Int) (b : Bool) (w : World) (hx : Ints .i64 w B a xs) (hM : 0 ≤ M ∧ M ≤ 8000) (h : chW M xs = b) :
    Calls Try.prog 48 #[.slice a xs.length c, .int .i64 M] w fun e w' => e = .returned (.bool b) ∧ w = w' := by
  subst h; exact chipsValid_any a c B xs M w hx hM

/-- A row of the call's own that holds a list. -/
def RowX (W : World) (b : Nat) (xs : List Int) : Prop := W.rowIs b 3 xs.length (fun i => .int .i64 (el xs i))
section
variable {W W' : World} {b : Nat} {xs : List Int}
theorem RowX.cell (h : RowX W b xs) {k : Nat} (hk : k < xs.length) : W.cell? ⟨b, k, none⟩ = some (.int .i64 (el xs k)) := World.rowIs.cell h hk
theorem RowX.frozen (h : RowX W b xs) (k : Nat) : W.frozen? ⟨b, k, none⟩ = false := World.rowIs.frozen h k
theorem RowX.set (h : RowX W b xs) {k : Nat} (_hk : k < xs.length) (v : Int) : RowX (W.setCell ⟨b, k, none⟩ (.int .i64 v)) b (xs.set k v) := by
  unfold RowX
  rw [List.length_set]
  refine (World.rowIs.set h k (.int .i64 v)).congr fun j hj => ?_
  by_cases e : j = k
  · subst e; simp [el, hj]
  · have e2 : k ≠ j := fun h => e h.symm
    simp only [e, if_false, el, List.getD_eq_getElem?_getD, List.getElem?_set_ne e2]
theorem RowX.lt (h : RowX W b xs) : b < W.heap.size := World.rowIs.lt h
theorem RowX.next (h : RowX W b xs) (hb : Below W.heap.size W W') : RowX W' b xs := World.rowIs.of_block h (hb.block b h.lt)
theorem RowX.ints (h : RowX W b xs) : Ints .i64 W W.heap.size (some ⟨b, 0, none⟩) xs := ints_of_row h rfl h.lt
end
theorem rowX_made (w : World) (F : Nat → Int) (n : Nat) : RowX (w.alloc (.cells (madeCells #[.int .i64 0] n) 3)) w.heap.size (mkX F n 0) := by
  unfold RowX
  rw [mkX_length]
  refine (World.rowIs_made w (.int .i64 0) n 3).congr fun j hj => ?_
  rw [mkX_start]
  simp [el, hj]
theorem makeX (n : Nat) (hn : n ≤ 1000000) (w : World) : (Instr.makeSlice 24 (.int .i64 (n : Int)) (.int .i64 (n : Int))).run Try.prog w = .ok (.slice (some ⟨w.heap.size, 0, none⟩) n n) (w.alloc (.cells (madeCells #[.int .i64 0] n) 3)) :=
  run_make_row' (P := Try.prog) 24 3 (.int .i64 0) 8 Try.underlying24 Try.infoInt rfl .i64 .i64 n (by omega) (by omega) w
theorem alloc_belowX (w : World) (o : Obj) : Below w.heap.size w (w.alloc o) := (Below.refl _ _).alloc (Nat.le_refl _) o
theorem rowX_post {w W : World} {b n : Nat} {xs : List Int} (h : RowX W b xs) (hl : xs.length ≤ maxLen) (hb : w.heap.size ≤ b) (hbl : Below w.heap.size w W) (hn : n = xs.length) : ListPostC xs w (.returned (.slice (some ⟨b, 0, none⟩) n n)) W := by
  subst hn
  exact listPostC_row h rfl hl hb hbl
/-- One product, as a walk wants it. -/
theorem pm_nums {x f : Int} (hx : -1 ≤ x ∧ x ≤ 1) (hf : -1 ≤ f ∧ f ≤ 1) : ∃ v : Int, x * f = v ∧ IntKind.i64.wrap v = v ∧ wrap64 v = v ∧ (-1 ≤ v ∧ v ≤ 1) := by
  have hx' : x = -1 ∨ x = 0 ∨ x = 1 := by omega
  have hf' : f = -1 ∨ f = 0 ∨ f = 1 := by omega
  refine ⟨_, rfl, ?_⟩
  rcases hx' with rfl | rfl | rfl <;> rcases hf' with rfl | rfl | rfl <;> exact ⟨wrapW (by omega), wrapW' (by omega), by omega⟩
set_option maxHeartbeats 1000000 in
theorem scaled_any (a : Option Addr) (c : Nat) (xs : List Int) (f : Int) (w : World) (hx : Ints .i64 w w.heap.size a xs) (hp : pmL xs) (hf : -1 ≤ f ∧ f ≤ 1) (hl : xs.length ≤ 1000) :
    Calls Try.prog 46 #[.slice a xs.length c, .int .i64 f] w (ListPostC (scL xs f) w) := by
  have HX := Lib.hid hx
  have HP := Lib.hid hp
  have HF := Lib.hid hf
  have HL := Lib.hid hl
  obtain ⟨F, hF⟩ : ∃ F : Nat → Int, F = fun i => el xs i * f := ⟨_, rfl⟩
  have HD := Lib.hid (show scL xs f = mkX F xs.length xs.length by
    rw [mkX_done, hF]
    refine list_ext9 (by simp [scL]) fun i hi => ?_
    rw [scL_length] at hi
    rw [scL_el hi]; simp [el, hi])
  have HFe := Lib.hid (fun i => show F i = el xs i * f by rw [hF])
  have hmk := makeX xs.length (by omega)
  have R0 := Lib.hid (rowX_made w F xs.length)
  have B0 := Lib.hid (alloc_belowX w (.cells (madeCells #[.int .i64 0] xs.length) 3))
  clear hx hp hf hl hF
  go_enter Try.func46, Try.ntmps46
  go_wp2
  clear hmk
  go_loopw [13] (fun i wr => ∃ k : Nat, k ≤ xs.length ∧ i = .int .i64 k ∧ RowX wr w.heap.size (mkX F xs.length k) ∧ Below w.heap.size w wr) (fun i _ => xs.length - (intOf i).toNat)
  case atStart => exact ⟨0, Nat.zero_le _, rfl, R0.out, B0.out⟩
  case round =>
    obtain ⟨k, hk, rfl, hrow, hbel⟩ := hrel
    have HR := Lib.hid hrow
    have HB := Lib.hid hbel
    have hk2 : k ≤ 1000 := Nat.le_trans hk HL.out
    clear hrow hbel R0 B0
    by_cases hlt : k < xs.length
    · obtain ⟨b, off, rfl, hb, hc⟩ := (HX.out.below HB.out).at_ hlt
      have c0 := HR.out.cell (k := k) (by rw [mkX_length]; exact hlt)
      have f0 := HR.out.frozen k
      have HS := HR.out.set (k := k) (by rw [mkX_length]; exact hlt) (F k)
      rw [mkX_set F hlt] at HS
      obtain ⟨v, hv, r1, r1', _⟩ := pm_nums (HP.out k) HF.out
      have HFk := HFe.out k
      rw [hv] at HFk
      rw [HFk] at HS
      have HS := Lib.hid HS
      have HB2 := Lib.hid (HB.out.setCell (p := ⟨w.heap.size, k, none⟩) (Nat.le_refl _) (.int .i64 v))
      rw [← hv] at r1 r1'
      rw [hv] at r1 r1'
      generalize el xs k = x at *
      have q1 : IntKind.i64.wrap (x * f) = v := by rw [hv]; exact r1
      have q1' : wrap64 (x * f) = v := by rw [hv]; exact r1'
      clear hv r1 r1' HFk hb
      go_wp2
      go_roundw
      case rel => exact ⟨k + 1, by omega, by go_num, HS.out, HB2.out⟩
      case measure => simp [intOf]; omega
    · obtain rfl : xs.length = k := by omega
      go_wp2
      go_ret
      rw [HD.out]
      exact rowX_post HR.out (by rw [mkX_length]; have := HL.out; unfold maxLen; omega) (Nat.le_refl _) HB.out (by rw [mkX_length])
end Go.Proofs.Ytnnknfpkbhcghaa
