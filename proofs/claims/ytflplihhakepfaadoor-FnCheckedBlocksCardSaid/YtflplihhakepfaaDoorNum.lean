/-
  What reading some bits of a word as a number answers, and the division's table. Conditions: the places lie in the word; the polynomial is valid.
-/
import Derived.Test.YtflplihhakepfaaDoorGen
import Derived.Test.YtflplihhakepfaaDoorPoly
import Derived.Test.YtflplihhakepfaaDoorImpl2
namespace Go.Proofs.YtflplihhakepfaaDoor
open Go.RowKit

theorem mask_count {count : Nat} (hc : count ≤ 4) : IntKind.u64.wrap (IntKind.u64.wrap ((2 : Int) ^ count) - 1) = ((2 ^ count - 1 : Nat) : Int) := by
  have : count = 0 ∨ count = 1 ∨ count = 2 ∨ count = 3 ∨ count = 4 := by omega
  rcases this with rfl | rfl | rfl | rfl | rfl <;> rfl
theorem number_eq {W place count : Nat} (hW : W < 2 ^ 64) (hc : count ≤ 4) :
    wrap64 (bits BinOp.and IntKind.u64 ((W : Int) / 2 ^ (64 - count - place)) (IntKind.u64.wrap (IntKind.u64.wrap ((2 : Int) ^ count) - 1))) = ((W / 2 ^ (64 - count - place) % 2 ^ count : Nat) : Int) := by
  have h2 : ((W : Int) / 2 ^ (64 - count - place)) = ((W / 2 ^ (64 - count - place) : Nat) : Int) := by
    rw [Int.natCast_ediv, Int.natCast_pow]; rfl
  have hlt : W / 2 ^ (64 - count - place) ≤ W := Nat.div_le_self _ _
  have hp : 2 ^ count ≤ 2 ^ 4 := Nat.pow_le_pow_right (by omega) hc
  rw [mask_count hc, h2, u64_and_nat _ _ (by omega) (by omega), Nat.and_two_pow_sub_one_eq_mod]
  have hm : W / 2 ^ (64 - count - place) % 2 ^ count < 2 ^ count := Nat.mod_lt _ (Nat.two_pow_pos _)
  generalize W / 2 ^ (64 - count - place) % 2 ^ count = q at *
  exact wrap64_in (by omega)
set_option maxHeartbeats 400000 in
theorem numberAt_any (W place count : Nat) (w : World) (hW : W < 2 ^ 64) (hp : place + count ≤ 64) (hc : count ≤ 4) :
    Calls Tryd.prog 55 #[.int .u64 W, .int .i64 place, .int .i64 count] w fun e w' => e = .returned (.int .i64 ((W / 2 ^ (64 - count - place)) % 2 ^ count : Nat)) ∧ ∃ n, w' = w.drewN n := by
  have HE := Lib.hid (number_eq (place := place) hW hc)
  go_enter Tryd.func55, Tryd.ntmps55
  go_wp2
  go_quiet (fail)
  go_wp2
  go_ret
  exact ⟨ret_int HE.out, _, rfl⟩

/-- The 17 cells of a table: the degree, then the remainders of the numbers below k (0 behind). -/
def IsTab (cs : Array Value) (g : Int) (k : Nat) : Prop :=
  cs.size = 17 ∧ cs[0]? = some (.int .i64 (deg g)) ∧ ∀ i, i < 16 → cs[1 + i]? = some (.int .i64 ((if i < k then tab g.toNat (deg g) i else 0 : Nat)))
theorem isTab_set {cs : Array Value} {g : Int} {k v : Nat} (h : IsTab cs g k) (hk : k < 16) (hv : v = tab g.toNat (deg g) k) : IsTab (cs.setIfInBounds (1 + k) (.int .i64 (v : Int))) g (k + 1) := by
  obtain ⟨h1, h2, h3⟩ := h
  refine ⟨by simpa using h1, ?_, fun j hj => ?_⟩
  · rw [Array.getElem?_setIfInBounds]; simp [h2]
  · rw [Array.getElem?_setIfInBounds]
    by_cases e : k = j
    · subst e; simp [h1, hv]; omega
    · rw [if_neg (by omega), h3 j hj]
      have e2 : (j < k) ↔ (j < k + 1) := by omega
      simp [e2]
theorem tab_one {cs : Array Value} {g : Int} {k : Nat} (h : IsTab cs g k) : cs.all (·.oneCell') = true := by
  obtain ⟨h1, h2, h3⟩ := h
  rw [Array.all_eq_true]
  intro i hi
  by_cases e : i = 0
  · subst e
    rw [Array.getElem?_eq_getElem hi] at h2
    injection h2 with h2
    rw [h2]; rfl
  · obtain ⟨j, rfl⟩ : ∃ j, i = 1 + j := ⟨i - 1, by omega⟩
    have := h3 j (by omega)
    rw [Array.getElem?_eq_getElem hi] at this
    injection this with this
    rw [this]; rfl
theorem infoTab : (Tryd.prog.info? 69).map (·.size) = some 17 := by kernel_rfl
theorem store_tab {ops : Array Oper} {rest : List Oper} {o : Oper} {a : Act} {w : World} {Q : Exit → Act → World → Prop} (x y : Operand) (g : Nat) (cells old : Array Value)
    (hg : w.heap[g]? = some (.cells old 69 (0, 0))) (hs : cells.size = 17) (hold : old.size = 17) (h1 : cells.all (·.oneCell') = true)
    (hgd : o.guard = none) (ho : o.op = .store 69 x y) (hx : a.eval x = .pointer (some ⟨g, 0, none⟩)) (hy : a.eval y = .agg cells)
    (h : wpList Tryd.prog ops Q rest (a.put o.dst undef) (w.setRow g cells)) : wpList Tryd.prog ops Q (o :: rest) a w :=
  wpList_store_row hgd 69 x y ho g cells hx hy 69 old hg (by rw [infoTab, hs]) (by rw [hold, hs]) h1 h
theorem load_tab {ops : Array Oper} {rest : List Oper} {o : Oper} {a : Act} {w : World} {Q : Exit → Act → World → Prop} (x : Operand) (g : Nat) (cells : Array Value)
    (hg : w.heap[g]? = some (.cells cells 69 (0, 0))) (hs : cells.size = 17)
    (hgd : o.guard = none) (ho : o.op = .load 69 x) (hx : a.eval x = .pointer (some ⟨g, 0, none⟩))
    (h : wpList Tryd.prog ops Q rest (a.put o.dst (.agg cells)) w) : wpList Tryd.prog ops Q (o :: rest) a w :=
  wpList_load_row hgd 69 x ho g hx 69 cells (0, 0) _ hg Tryd.underlying69 rfl (by rw [infoTab, hs]) h

theorem tab_lt {g : Int} (h : genOk g = true) (n : Nat) : tab g.toNat (deg g) n < 2 ^ deg g := pm_lt (deg_pow h).1 (deg_pow h).2 _
theorem pow_deg {g : Int} (h : genOk g = true) : 2 ^ deg g ≤ 65536 := by
  have : 2 ^ deg g ≤ 2 ^ 16 := Nat.pow_le_pow_right (by omega) (deg_lt h).2
  omega
/-- One entry more, as the program reckons it: case by case. -/
theorem entry_even {g : Int} (h : genOk g = true) {k : Nat} (hk : k % 2 = 0) : tab g.toNat (deg g) k = stp g.toNat (deg g) (2 * tab g.toNat (deg g) (k / 2)) := by
  have := tab_step (g := g.toNat) (deg_lt h).1 (k / 2) 0 (by omega)
  rw [show 2 * (k / 2) + 0 = k by omega] at this
  simpa using this
theorem entry_odd {g : Int} (h : genOk g = true) {k : Nat} (hk : k % 2 = 1) : tab g.toNat (deg g) k = stp g.toNat (deg g) ((2 * tab g.toNat (deg g) (k / 2)) ^^^ 2 ^ deg g) := by
  have := tab_step (g := g.toNat) (deg_lt h).1 (k / 2) 1 (by omega)
  rw [show 2 * (k / 2) + 1 = k by omega] at this
  simpa using this
theorem and_pow (t d : Nat) : (t &&& 2 ^ d != 0) = t.testBit d := by
  cases h : t.testBit d
  · have h0 : t &&& 2 ^ d = 0 := by
      apply Nat.eq_of_testBit_eq
      intro i
      rw [Nat.testBit_and, Nat.testBit_two_pow]
      by_cases e : d = i
      · subst e; simp [h]
      · simp [e]
    simp [h0]
  · have h0 : (t &&& 2 ^ d).testBit d = true := by rw [Nat.testBit_and, Nat.testBit_two_pow]; simp [h]
    have h1 : t &&& 2 ^ d ≠ 0 := fun e => by rw [e] at h0; simp at h0
    simp [h1]
theorem i64_test {t d : Nat} (ht : t < 2 ^ 63) (hd : d ≤ 16) : (bits .and .i64 (t : Int) ((2 ^ d : Nat) : Int) != 0) = t.testBit d := by
  have hp : 2 ^ d ≤ 2 ^ 16 := Nat.pow_le_pow_right (by omega) hd
  rw [i64_and t (2 ^ d) ht (by omega), ← and_pow]
  rw [Bool.eq_iff_iff]
  simp only [bne_iff_ne, ne_eq]
  omega
theorem heap_prev_set {w : World} {b i : Nat} {v : Value} {o : Obj} (h : w.heap[b]? = some o) {c : Nat} (hne : b ≠ c) : (w.setCell ⟨c, i, none⟩ v).heap[b]? = some o :=
  (Below.heap_setCell w ⟨c, i, none⟩ v b hne).trans h
def TabRel (g : Int) (w : World) (k : Nat) (wr : World) : Prop :=
  (∃ cs, wr.heap[w.heap.size + 1]? = some (.cells cs 69 (0, 0)) ∧ IsTab cs g k) ∧ (∃ cs, wr.heap[w.heap.size]? = some (.cells cs 69 (0, 0)) ∧ cs.size = 17) ∧ Below w.heap.size w wr
theorem tabRel_step {g : Int} {w wr : World} {k v : Nat} (h : TabRel g w k wr) (hk : k < 16) (hv : v = tab g.toNat (deg g) k) : TabRel g w (k + 1) (wr.setCell ⟨w.heap.size + 1, 1 + k, none⟩ (.int .i64 (v : Int))) := by
  obtain ⟨⟨cs, h1, h2⟩, ⟨cs0, h3, h4⟩, h5⟩ := h
  refine ⟨⟨_, ?_, isTab_set h2 hk hv⟩, ⟨cs0, heap_prev_set h3 (by omega), h4⟩, h5.setCell (by show w.heap.size ≤ w.heap.size + 1; omega) _⟩
  rw [setCell_eq_setRow wr (w.heap.size + 1) (1 + k) cs _ _ _ h1]
  exact setRow_heap _ _ _ _ _ _ h1
set_option maxHeartbeats 1000000 in
theorem tableOf_any (g : Int) (w : World) (hg : genOk g = true) :
    Calls Tryd.prog 57 #[.int .i64 g] w fun e w' => ∃ cs, e = .returned (.agg cs) ∧ IsTab cs g 16 ∧ Below w.heap.size w w' := by
  obtain ⟨g1, g2, g3⟩ := genOk_parts hg
  obtain ⟨G, rfl⟩ := Int.eq_ofNat_of_zero_le (show 0 ≤ g by omega)
  have hd2 := (deg_lt hg).2
  have hdeg := fun W => degreeOf_any (G : Int) W
  rw [show degOr (G : Int) = (deg (G : Int) : Int) by simp [degOr, hg]] at hdeg
  obtain ⟨d, hd⟩ : ∃ d, d = deg (G : Int) := ⟨_, rfl⟩
  obtain ⟨P, hPd⟩ : ∃ P, P = 2 ^ d := ⟨_, rfl⟩
  have hPb : P ≤ 65536 := by rw [hPd, hd]; exact pow_deg hg
  rw [← hd] at hdeg hd2
  have hP : wrap64 ((2 : Int) ^ d) = (P : Int) := by
    rw [hPd, show ((2 : Int) ^ d) = ((2 ^ d : Nat) : Int) from (Int.natCast_pow 2 d).symm]
    rw [← hPd]
    exact wrap64_in (by omega)
  have HD := Lib.hid hdeg
  have HG := Lib.hid hg
  have Hd := Lib.hid hd
  have HPd := Lib.hid hPd
  have hG2 : G < 131072 := by omega
  clear hdeg hg hd hPd g1 g2 g3
  go_enter Tryd.func57, Tryd.ntmps57
  go_wp2_with (go_at_call 50; refine (HD.out _).mono ?_; rintro e w' ⟨rfl, rfl⟩)
  rw [hP]
  clear hP
  go_loopw [13] (fun i wr => ∃ k : Nat, k ≤ 16 ∧ i = .int .i64 k ∧ TabRel (G : Int) w k wr) (fun i _ => 16 - (intOf i).toNat)
  case atStart =>
    refine ⟨0, Nat.zero_le _, rfl, ⟨_, heap_last2 _ _ _, rfl, by rw [← Hd.out]; rfl, ?_⟩, ⟨_, heap_prev2 _ _ _, rfl⟩, ((Below.refl _ _).alloc (Nat.le_refl _) _).alloc (by simp) _⟩
    intro i hi
    match i, hi with
    | 0, _ | 1, _ | 2, _ | 3, _ | 4, _ | 5, _ | 6, _ | 7, _ | 8, _ | 9, _ | 10, _ | 11, _ | 12, _ | 13, _ | 14, _ | 15, _ => rfl
    | (n + 16), h => exact absurd h (by omega)
  case round =>
    obtain ⟨k, hk, rfl, hrel⟩ := hrel
    by_cases hlt : k < 16
    · obtain ⟨T, hT⟩ : ∃ T, T = tab G d (k / 2) := ⟨_, rfl⟩
      have hTb : T < 65536 := by
        have h1 := tab_lt HG.out (k / 2)
        have h2 := pow_deg HG.out
        rw [hT, Hd.out]
        rw [Int.toNat_natCast] at h1
        omega
      obtain ⟨⟨cs, h1, h2⟩, h3⟩ := id hrel
      have hcv : wr.cell? ⟨w.heap.size + 1, 1 + k, none⟩ = some (.int .i64 0) := by
        rw [cell_of_row _ _ _ _ _ _ h1, h2.2.2 k hlt]; simp
      have hfz : wr.frozen? ⟨w.heap.size + 1, 1 + k, none⟩ = false := by simp [World.frozen?, h1]
      by_cases hz : k = 0
      · subst hz
        have hT0 : T = 0 := by rw [hT]; exact tab_zero _ _
        have hE : (0 : Nat) = tab ((G : Int)).toNat (deg (G : Int)) 0 := (tab_zero _ _).symm
        have HN := Lib.hid (tabRel_step hrel (by omega) hE)
        have hcw : wr.cell? ⟨w.heap.size + 1, 1, none⟩ = some (.int .i64 0) := hcv
        have hfw : wr.frozen? ⟨w.heap.size + 1, 1, none⟩ = false := hfz
        have htest : (bits .and .i64 0 (P : Int) != 0) = false := by
          have := i64_test (t := 0) (d := d) (by omega) hd2
          rw [← HPd.out] at this
          rw [Nat.zero_testBit] at this
          exact this
        have hand : bits .and .i64 0 1 = 0 := and_one (g := 0) (by omega) (by omega)
        clear h1 h2 h3 hrel hT hT0 hE hcv hfz
        go_wp2
        go_roundw
        case rel => exact ⟨1, by omega, rfl, HN.out⟩
        case measure => simp [intOf]
      · have hcw : wr.cell? ⟨w.heap.size + 1, 1 + k / 2, none⟩ = some (.int .i64 T) := by
          rw [cell_of_row _ _ _ _ _ _ h1, h2.2.2 (k / 2) (by omega), if_pos (show k / 2 < k by omega), hT, Hd.out]
          rfl
        clear h1 h2 h3
        have HR := Lib.hid hrel
        have HT := Lib.hid hT
        clear hrel hT
        rcases Nat.mod_two_eq_zero_or_one k with hpar | hpar
        · have hand : bits .and .i64 (k : Int) 1 = 0 := by rw [and_one (by omega) (by omega)]; omega
          have he := entry_even HG.out hpar
          rw [← Hd.out, Int.toNat_natCast, ← HT.out] at he
          cases ht : (2 * T).testBit d
          · have htest : (bits .and .i64 ((T : Int) * 2) (P : Int) != 0) = false := by
              have := i64_test (t := 2 * T) (d := d) (by omega) hd2
              rw [← HPd.out, ht] at this
              rw [← this]; congr 2; omega
            have hv : 2 * T = tab ((G : Int)).toNat (deg (G : Int)) k := by
              rw [← Hd.out, Int.toNat_natCast, he]; simp [stp, ht]
            have HN := Lib.hid (tabRel_step HR.out hlt hv)
            clear ht hpar hv he
            go_wp2
            go_roundw
            case rel => exact ⟨k + 1, by omega, by go_num, by have := HN.out; rwa [show ((2 * T : Nat) : Int) = (T : Int) * 2 by omega] at this⟩
            case measure => simp [intOf]; omega
          · have htest : (bits .and .i64 ((T : Int) * 2) (P : Int) != 0) = true := by
              have := i64_test (t := 2 * T) (d := d) (by omega) hd2
              rw [← HPd.out, ht] at this
              rw [← this]; congr 2; omega
            obtain ⟨R, hR⟩ : ∃ R, R = 2 * T ^^^ G := ⟨_, rfl⟩
            have hx : bits .xor .i64 ((T : Int) * 2) (G : Int) = (R : Int) := by
              rw [hR, ← i64_xor (2 * T) G (by omega) (by omega)]; congr 1; omega
            have hv : R = tab ((G : Int)).toNat (deg (G : Int)) k := by
              rw [← Hd.out, Int.toNat_natCast, he, hR]; simp [stp, ht]
            have HN := Lib.hid (tabRel_step HR.out hlt hv)
            clear ht hpar hv he hR
            go_wp2
            go_roundw
            case rel => exact ⟨k + 1, by omega, by go_num, HN.out⟩
            case measure => simp [intOf]; omega
        · have hand : bits .and .i64 (k : Int) 1 = 1 := by rw [and_one (by omega) (by omega)]; omega
          have he := entry_odd HG.out hpar
          rw [← Hd.out, Int.toNat_natCast, ← HT.out, ← HPd.out] at he
          obtain ⟨R, hR⟩ : ∃ R, R = 2 * T ^^^ P := ⟨_, rfl⟩
          have hx : bits .xor .i64 ((T : Int) * 2) (P : Int) = (R : Int) := by
            rw [hR, ← i64_xor (2 * T) P (by omega) (by omega)]; congr 1; omega
          have hRb : R < 2 ^ 18 := by rw [hR]; exact Nat.xor_lt_two_pow (by omega) (by omega)
          cases ht : R.testBit d
          · have htest : (bits .and .i64 (R : Int) (P : Int) != 0) = false := by
              have := i64_test (t := R) (d := d) (by omega) hd2
              rw [← HPd.out, ht] at this
              exact this
            have hv : R = tab ((G : Int)).toNat (deg (G : Int)) k := by
              rw [← Hd.out, Int.toNat_natCast, he, ← hR]; simp [stp, ht]
            have HN := Lib.hid (tabRel_step HR.out hlt hv)
            clear ht hpar hv he hR hRb
            go_wp2
            go_roundw
            case rel => exact ⟨k + 1, by omega, by go_num, HN.out⟩
            case measure => simp [intOf]; omega
          · have htest : (bits .and .i64 (R : Int) (P : Int) != 0) = true := by
              have := i64_test (t := R) (d := d) (by omega) hd2
              rw [← HPd.out, ht] at this
              exact this
            obtain ⟨S, hS⟩ : ∃ S, S = R ^^^ G := ⟨_, rfl⟩
            have hx2 : bits .xor .i64 (R : Int) (G : Int) = (S : Int) := by
              rw [hS]; exact i64_xor R G (by omega) (by omega)
            have hv : S = tab ((G : Int)).toNat (deg (G : Int)) k := by
              rw [← Hd.out, Int.toNat_natCast, he, ← hR, hS]; simp [stp, ht]
            have HN := Lib.hid (tabRel_step HR.out hlt hv)
            clear ht hpar hv he hR hRb hS
            go_wp2
            go_roundw
            case rel => exact ⟨k + 1, by omega, by go_num, HN.out⟩
            case measure => simp [intOf]; omega
    · obtain rfl : 16 = k := by omega
      obtain ⟨⟨cs, h1, h2⟩, ⟨cs0, h3, h4⟩, h5⟩ := hrel
      have H1 := Lib.hid h1
      have H2 := Lib.hid h2
      have H3 := Lib.hid h3
      have H4 := Lib.hid h4
      have H5 := Lib.hid h5
      clear h1 h2 h3 h4 h5
      go_wp2_with (first | (refine load_tab (.tmp 3) (w.heap.size + 1) cs H1.out H2.out.1 rfl rfl rfl ?_) | (refine store_tab (.tmp 2) (.tmp 40) w.heap.size cs cs0 H3.out H2.out.1 H4.out (tab_one H2.out) rfl rfl rfl rfl ?_))
      refine bodyPost_ret (results_cell_row (P := Tryd.prog) rfl _ _ w.heap.size 69 cs (0, 0) _ rfl (setRow_heap _ _ _ _ _ _ H3.out) Tryd.underlying69 rfl (by rw [infoTab, H2.out.1])) rfl ?_
      exact ⟨cs, rfl, H2.out, below_setRow H5.out (by omega) _⟩
end Go.Proofs.YtflplihhakepfaaDoor
