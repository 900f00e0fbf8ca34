/-
  What the models of DecodeWord and EncodeWord answer, for every list. Condition: a list that can be read.
-/
import Derived.Test.YtkeeijkjemcbcaaDoorWrd10
import Derived.StillTailTactics
namespace Go.Proofs.YtkeeijkjemcbcaaDoor
open Go.RowKit

theorem DecP.back {o : Option (List Int)} {w W w' : World} {e : Ending} (h : DecP o W e w') (hw : Below w.heap.size w W) : DecP o w e w' := by
  obtain ⟨a, cap, h1, h2, h3, h4⟩ := h
  refine ⟨a, cap, h1, h2, fun hne => ?_, Below.next hw (Nat.le_refl _) h4⟩
  obtain ⟨b, cap', e1, e2, e3⟩ := h3 hne
  exact ⟨b, cap', e1, Nat.le_trans hw.size e2, e3⟩
theorem decP_lit0 {w : World} {t : TypeId} : DecP none w (.returned (.tuple #[.slice (some ⟨w.heap.size, 0, none⟩) 0 0, .bool false])) (w.alloc (.cells #[] t)) :=
  ⟨_, 0, rfl, ⟨Nat.le_refl _, Nat.zero_le _⟩, fun h => absurd rfl h, below_alloc _ _⟩
theorem ofN_co {xs : List Int} (h : wok 15 xs = true) : ofN (co xs) 15 = xs := (wok_eq h).symm
set_option maxHeartbeats 1000000 in
theorem specDecodeWord_any (a : Option Addr) (c : Nat) (xs : List Int) (w : World) (hx : Ints .i64 w w.heap.size a xs) (hl : xs.length ≤ 1048576) :
    Calls Tryd.prog 27 #[.slice a xs.length c] w (DecP (dec6 xs) w) := by
  cases hk : wok 15 xs
  · have HV := Lib.hid (l6Symbols_15 a c w.heap.size xs w false hx hl hk)
    have HE := Lib.hid (dec6_no hk)
    clear hx hk
    go_enter Tryd.func27, Tryd.ntmps27
    go_wp2_with (go_at_call 37; refine HV.out.mono ?_; rintro e w' ⟨rfl, rfl⟩)
    go_ret2
    rw [HE.out]
    exact decP_lit0
  · have HV := Lib.hid (l6Symbols_15 a c w.heap.size xs w true hx hl hk)
    have HS := Lib.hid (specWordSyndromes_any a c xs w hx hl)
    have hlen := (wok_parts hk).1
    have HX := Lib.hid hx
    have HL := Lib.hid hlen
    have hc16 := wok_lt hk
    have hl0 : 0 < xs.length := by omega
    have hlen4 : (synL6 xs).length ≤ 1048576 := by rw [synL6_yes hk]; simp
    have hsyn : synL6 xs = synL6 (ofN (co xs) 15) := by rw [ofN_co hk]
    have HK := Lib.hid hk
    by_cases hz : Zero6 (co xs)
    · have hZ : allZ (synL6 xs) = true := by rw [hsyn]; exact allZ_syn hc16 hz
      have HE := Lib.hid ((dec6_found hk (near_self _) hz).trans (by rw [ofN_co hk]))
      clear hx hk hz hsyn hc16 hlen
      generalize synL6 xs = ZL at *
      have HZ := Lib.hid hZ
      clear hZ
      go_enter Tryd.func27, Tryd.ntmps27
      go_wp2_with (go_at_call 37; refine HV.out.mono ?_; rintro e w' ⟨rfl, rfl⟩)
      refine HS.out.mono ?_
      rintro e w1 ⟨v1, n1, cap1, rfl, hg1, hb1⟩
      obtain rfl : ZL.length = n1 := hg1.len
      have hq := l6Zero_any v1 cap1 w1.heap.size ZL w1 hg1.ints hlen4
      rw [HZ.out] at hq
      have HQ := Lib.hid hq
      have B1 := Lib.hid hb1
      have IX := Lib.hid (fun o => ((HX.out.next hb1).below (below_alloc w1 o)))
      have BX := Lib.hid (fun o => below_alloc w1 o)
      clear hg1 hb1 hq HS
      go_wp2_with fail
      refine HQ.out.mono ?_
      rintro e w' ⟨rfl, rfl⟩
      go_wp2_with (at_builtin; refine wpList_appendA (.tmp 11) (.tmp 12) w1.heap.size (some ⟨w1.heap.size, 0, none⟩) a 0 0 xs.length c w1.heap.size [] xs rfl rfl rfl rfl (Grow.lit0 _ _ _ _ (Nat.le_refl _)) (IX.out _) rfl (by omega) (by simp) ?_; intro a4 cap4 w4 hg4 hb4 _; rw [Nat.zero_add, List.nil_append] at hg4; have HG4 := Lib.hid hg4; have HB4 := Lib.hid (Below.next B1.out (Nat.le_refl _) ((BX.out _).trans hb4)); clear hg4 hb4)
      go_ret2
      rw [HE.out]
      exact decP_some (HG4.out.base_le B1.out.size) HB4.out
    · have hZ : allZ (synL6 xs) = false := by rw [hsyn]; exact allZ_not hc16 hz
      clear hx hk hz hsyn hc16 hlen
      generalize synL6 xs = ZL at *
      have HZ := Lib.hid hZ
      clear hZ
      go_enter Tryd.func27, Tryd.ntmps27
      go_wp2_with (go_at_call 37; refine HV.out.mono ?_; rintro e w' ⟨rfl, rfl⟩)
      refine HS.out.mono ?_
      rintro e w1 ⟨v1, n1, cap1, rfl, hg1, hb1⟩
      obtain rfl : ZL.length = n1 := hg1.len
      have hq := l6Zero_any v1 cap1 w1.heap.size ZL w1 hg1.ints hlen4
      rw [HZ.out] at hq
      have HQ := Lib.hid hq
      have B1 := Lib.hid hb1
      have HF := Lib.hid (l6Fix_any a c xs w1 (HX.out.next hb1) HK.out)
      clear hg1 hb1 hq HS
      go_wp2_with fail
      refine HQ.out.mono ?_
      rintro e w' ⟨rfl, rfl⟩
      go_wp2_with fail
      refine HF.out.mono ?_
      rintro e w2 hp
      obtain ⟨v, cap, rfl, hr, ho, hb⟩ := DecP.back hp B1.out
      have HP : Hid (DecP (dec6 xs) w (.returned (.tuple #[.slice v ((dec6 xs).getD []).length cap, .bool (dec6 xs).isSome])) w2) := ⟨v, cap, rfl, hr, ho, hb⟩
      clear hp hr ho hb
      generalize ((dec6 xs).getD []).length = m at *
      generalize (dec6 xs).isSome = q at *
      go_wp2
      go_ret2
      exact HP.out

/-- The generator's coefficients, as the model multiplies them out: after k factors; within the next one. -/
def genG : Nat → Nat → Nat
  | 0 => one 0 1
  | k + 1 => fun i => if i = 0 then genG k 0 else genG k i ^^^ fmul (genG k (i - 1)) (zr k)
def genN (k j : Nat) : Nat → Nat := fun i => if i = 0 ∨ j < i then genG k i else genG k i ^^^ fmul (genG k (i - 1)) (zr k)
theorem genG_succ (k i : Nat) : genG (k + 1) i = if i = 0 then genG k 0 else genG k i ^^^ fmul (genG k (i - 1)) (zr k) := rfl
theorem genG_lt : ∀ k, Lt16 (genG k)
  | 0 => one_lt (by omega)
  | k + 1 => fun i => by
    rw [genG_succ]; split
    · exact genG_lt k 0
    · exact xor_lt (genG_lt k i) (fmul_lt (genG_lt k _) (zr_lt k))
theorem genG_beyond : ∀ k i, k < i → genG k i = 0
  | 0, i, h => by unfold genG one; rw [if_neg (by omega)]
  | k + 1, i, h => by rw [genG_succ, if_neg (by omega), genG_beyond k i (by omega), genG_beyond k (i - 1) (by omega), z_fmul]; rfl
theorem genN_zero (k i : Nat) : genN k 0 i = genG k i := by
  unfold genN; rw [if_pos (by omega)]
theorem genN_step (k j : Nat) : upd (genN k j) (j + 1) (fmul (genG k j) (zr k)) = genN k (j + 1) := funext fun i => by
  by_cases h : i = j + 1
  · subst h; rw [upd_at]; unfold genN; rw [if_pos (by omega), if_neg (by omega)]; rfl
  · rw [upd_ne h]; unfold genN
    by_cases h0 : i = 0 ∨ j < i
    · rw [if_pos h0, if_pos (by omega)]
    · rw [if_neg h0, if_neg (by omega)]
theorem genN_end (k : Nat) {i : Nat} (hi : i < k + 2) : genN k (k + 1) i = genG (k + 1) i := by
  unfold genN
  rw [genG_succ]
  by_cases h0 : i = 0
  · rw [if_pos (.inl h0), if_pos h0, h0]
  · rw [if_neg (by omega), if_neg h0]
def g5 (i : Nat) : Nat := if i = 0 then 1 else gen6 (i - 1)
theorem genG_four {i : Nat} (hi : i < 5) : genG 4 i = g5 i := by
  have : ∀ i, i < 5 → genG 4 i = g5 i := by decide +kernel
  exact this i hi
theorem ofN_more {c : Nat → Nat} {n : Nat} (h : c n = 0) : ofN c n ++ [0] = ofN c (n + 1) := by
  simp [ofN, List.range_succ, h]
/-- The generator so far in a block of the call's own, the roots in another one. -/
def GP (w W : World) (gb n cap k : Nat) : Prop := Grow .i64 3 W w.heap.size (some ⟨gb, 0, none⟩) n cap (ofN (genG k) (k + 1)) ∧ Ints .i64 W W.heap.size (some ⟨w.heap.size + 1, 0, none⟩) [2, 4, 8, 3] ∧ Below w.heap.size w W
theorem Grow.lit1 (w : World) (base a : Nat) (hb : base ≤ w.heap.size) : Grow .i64 3 (w.alloc (.cells #[.int .i64 a] 3)) base (some ⟨w.heap.size, 0, none⟩) 1 1 [(a : Int)] :=
  ⟨rfl, .inr ⟨w.heap.size, 1, #[.int .i64 a], rfl, hb, heap_alloc_last _ _, Nat.le_refl _, by unfold maxLen; omega, rfl, rfl⟩⟩
theorem NP0 {W W2 : World} {nb n cap k : Nat} (h : Grow .i64 3 W2 W.heap.size (some ⟨nb, 0, none⟩) n cap (ofN (genG k) (k + 1) ++ [0])) (hb : Below W.heap.size W W2) :
    Grow .i64 3 W2 W.heap.size (some ⟨nb, 0, none⟩) n cap (ofN (genN k 0) (k + 2)) ∧ Below W.heap.size W W2 := by
  rw [ofN_more (genG_beyond k (k + 1) (by omega))] at h
  rw [ofN_congr (d := genG k) fun i _ => genN_zero k i]
  exact ⟨h, hb⟩
def NP (W W2 : World) (nb n cap k j : Nat) : Prop := Grow .i64 3 W2 W.heap.size (some ⟨nb, 0, none⟩) n cap (ofN (genN k j) (k + 2)) ∧ Below W.heap.size W W2
theorem grow_ofN_cell {W : World} {cb n cap m : Nat} {c : Nat → Nat} {B : Nat} (h : Grow .i64 3 W B (some ⟨cb, 0, none⟩) n cap (ofN c m)) {i : Nat} (hi : i < m) : W.cell? ⟨cb, i, none⟩ = some (.int .i64 (c i)) ∧ W.frozen? ⟨cb, i, none⟩ = false := by
  obtain rfl : n = m := by have := h.len; rw [ofN_length] at this; exact this.symm
  obtain ⟨b, off, e, _, hc⟩ := h.ints.at_ (i := i) (by rw [ofN_length]; exact hi)
  injection e with e
  injection e with e1 e2
  subst e1 e2
  rw [Nat.zero_add, ofN_el hi] at hc
  exact ⟨hc, (grow_cell h hi).2⟩
theorem ints_four_cell {w : World} {B b : Nat} (h : Ints .i64 w B (some ⟨b, 0, none⟩) [2, 4, 8, 3]) {k : Nat} (hk : k < 4) : w.cell? ⟨b, k, none⟩ = some (.int .i64 (zr k)) := by
  obtain ⟨b', off, e, _, hc⟩ := h (by simp)
  injection e with e
  injection e with e1 e2
  subst e1 e2
  have := hc k hk
  rw [Nat.zero_add] at this
  rw [this]
  match k, hk with
  | 0, _ | 1, _ | 2, _ | 3, _ => rfl
set_option maxHeartbeats 2000000 in
theorem l6Generator_any (w : World) : Calls Tryd.prog 38 #[] w (NewL (ofN g5 5) w) := by
  go_enter Tryd.func38, Tryd.ntmps38
  go_wp2
  go_loopw [1, 3] (fun g i wr => ∃ k gb n cap : Nat, k ≤ 4 ∧ n = k + 1 ∧ i = .int .i64 k ∧ g = .slice (some ⟨gb, 0, none⟩) n cap ∧ GP w wr gb n cap k) (fun _ i _ => 4 - (intOf i).toNat)
  case atStart =>
    refine ⟨0, w.heap.size, 1, 1, by omega, rfl, rfl, rfl, ?_, ?_, (below_alloc w _).alloc (by simp) _⟩
    · exact (Grow.lit1 w w.heap.size 1 (Nat.le_refl _)).alloc _
    · have := (Grow.lit4 (w.alloc (.cells #[.int .i64 1] 3)) w.heap.size 2 4 8 3 (by simp)).ints
      simpa using this
  case round =>
    obtain ⟨k, gb, n, cap, hk, hn, rfl, rfl, hg⟩ := hrel
    rename World => V0
    have G1 := Lib.hid hg
    clear hg
    by_cases hlt : k < 4
    · have IX := Lib.hid (fun o => (G1.out.1.ints.below (below_alloc V0 o)))
      have BX := Lib.hid (fun o => below_alloc V0 o)
      have HN := Lib.hid hn
      have hn5 : n ≤ 5 := by omega
      have hkn : k < n := by omega
      have hkb : decide ((k : Int) < 4) = true := by simp; omega
      clear hn
      go_wp2_with (first
        | (at_builtin; refine wpList_appendA (.tmp 12) (.tmp 13) V0.heap.size (some ⟨V0.heap.size, 0, none⟩) (some ⟨gb, 0, none⟩) 0 0 n cap V0.heap.size [] (ofN (genG k) (k + 1)) rfl rfl rfl rfl (Grow.lit0 _ _ _ _ (Nat.le_refl _)) (IX.out _) (by rw [ofN_length, HN.out]) (by omega) (by simp) ?_; intro a4 cap4 w4 hg4 hb4 _; rw [Nat.zero_add, List.nil_append] at hg4; have HG4 := Lib.hid hg4; have HB4 := Lib.hid ((BX.out _).trans hb4); have hs4 : V0.heap.size ≤ w4.heap.size := HB4.out.size; clear hg4 hb4)
        | (at_builtin; refine wpList_append1 (.tmp 14) (.tmp 15) V0.heap.size a4 n cap4 (ofN (genG k) (k + 1)) ⟨w4.heap.size, 0, none⟩ 0 rfl rfl rfl rfl (HG4.out.alloc _) (by simp) (by omega) (by simp; omega) ?_; intro a5 cap5 w5 hg5 hb5; have HG5 := Lib.hid hg5; have HB5 := Lib.hid ((HB4.out.alloc hs4 _).trans hb5); clear hg5 hb5))
      obtain ⟨ad, rfl⟩ := HG5.out.addr
      obtain ⟨nb, e5, hnb⟩ := HG5.out.addr0 (by simp)
      injection e5 with e5
      subst e5
      have N5 : Hid (NP V0 w5 nb (n + 1) cap5 k 0) := NP0 HG5.out HB5.out
      clear HG5 HB5 HG4 HB4 IX BX hkb
      obtain ⟨N, hN⟩ : ∃ N, N = n + 1 := ⟨_, rfl⟩
      rw [← hN] at N5 ⊢
      have HNN := Lib.hid hN
      clear hN
      go_loopw [5] (fun j wr2 => ∃ m : Nat, m ≤ n ∧ j = .int .i64 m ∧ NP V0 wr2 nb N cap5 k m) (fun j _ => n - (intOf j).toNat)
      case atStart => exact ⟨0, Nat.zero_le _, rfl, N5.out⟩
      case round =>
        obtain ⟨m, hm, rfl, hnp⟩ := hrel
        have N6 := Lib.hid hnp
        clear N5
        by_cases hltm : m < n
        · obtain ⟨cN, fN⟩ := grow_ofN_cell hnp.1 (i := m + 1) (by have := HN.out; omega)
          have cG := (grow_ofN_cell (G1.out.1.below hnp.2) (i := m) (by have := HN.out; omega)).1
          have cR := ints_four_cell (G1.out.2.1.below hnp.2) hlt
          have hg16 := genG_lt k m
          have hz16 := zr_lt k
          have hst := genN_step k m
          have hn16 : genN k m (m + 1) < 16 := by
            unfold genN; split
            · exact genG_lt k _
            · exact xor_lt (genG_lt k _) (fmul_lt (genG_lt k _) (zr_lt k))
          have hpos : m + 1 < k + 2 := by have := HN.out; omega
          have HM := Lib.hid (fun W => l5Mul_q (genG k m) (zr k) W hg16 hz16)
          have hp16 := fmul_lt hg16 hz16
          generalize fmul (genG k m) (zr k) = P at *
          generalize genG k m = g at *
          generalize zr k = z at *
          obtain ⟨x, hx⟩ : ∃ x, x = genN k m (m + 1) ^^^ P := ⟨_, rfl⟩
          have hset : NP V0 (wr.drew.setCell ⟨nb, m + 1, none⟩ (.int .i64 (x : Int))) nb N cap5 k (m + 1) := by
            refine ⟨?_, (below_drewN hnp.2 1).setCell (by exact hnb) _⟩
            have := (hnp.1.drewN 1).set (m + 1) (x : Int)
            rwa [hx, ofN_set _ hpos, hst, ← hx] at this
          have hxw : bits .xor .i64 (genN k m (m + 1) : Int) (P : Int) = (x : Int) := by rw [hx]; exact xor_word _ _ (by omega) (by omega)
          generalize genN k m (m + 1) = u at *
          have HSet := Lib.hid hset
          obtain ⟨q, hq⟩ : ∃ q, q = m + 1 := ⟨_, rfl⟩
          have hw1 : IntKind.i64.wrap ((m : Int) + 1) = (q : Int) := by rw [IntKind.wrap_i64]; omega
          rw [← hq] at cN fN HSet
          have hqn : q < N := by have := HNN.out; omega
          have hk4 : (k : Int) < 4 := by omega
          have HQ := Lib.hid hq
          clear hnp hst hx hset hq hpos
          go_wp2
          (refine wp_region_still_tail 19 (by kernel_rfl) (by kernel_rfl) ?_
           simp only [List.take_succ_cons, List.take_zero, List.drop_succ_cons, List.drop_zero]
           repeat still_step)
          still_call (HM.out _)
          repeat still_step
          refine wpStill_nil ?_
          change wpList _ _ _ _ _ wr.drew
          have cN2 : wr.drew.cell? ⟨nb, q, none⟩ = some (.int .i64 (u : Int)) := cN
          have fN2 : wr.drew.frozen? ⟨nb, q, none⟩ = false := fN
          generalize wr.drew = wd at *
          go_wp2
          go_roundw
          case rel => exact ⟨q, by have := HQ.out; omega, rfl, by rw [HQ.out]; rw [HQ.out] at HSet; exact HSet.out⟩
          case measure => have := HQ.out; simp [intOf]; omega
        · obtain rfl : m = n := by omega
          have GN : Hid (GP w wr nb N cap5 (k + 1)) := by
            refine ⟨?_, G1.out.2.1.next hnp.2, Below.next G1.out.2.2 (Nat.le_refl _) hnp.2⟩
            have h := hnp.1
            rw [show m = k + 1 from HN.out, ofN_congr fun i hi => genN_end k hi] at h
            exact h.base_le G1.out.2.2.size
          have HN2 := Lib.hid (show N = k + 1 + 1 by rw [HNN.out, HN.out])
          clear hnp N6
          go_wp2
          go_roundw
          case rel => exact ⟨k + 1, nb, N, cap5, by omega, HN2.out, by go_num, rfl, GN.out⟩
          case measure => simp [intOf]; omega
    · obtain rfl : k = 4 := by omega
      have hG := G1.out.1
      rw [ofN_congr fun i hi => genG_four hi] at hG
      have HG := Lib.hid hG
      clear hG
      go_wp2
      go_ret
      exact ⟨_, _, _, rfl, HG.out, G1.out.2.2⟩
end Go.Proofs.YtkeeijkjemcbcaaDoor
