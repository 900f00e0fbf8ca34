/-
  What the models of InterleaveBits and DeinterleaveBits answer, for every list and every number of rows. Condition: the list's length can be.
-/
import Derived.Test.YtmhngakfjlkchaaIlv2
namespace Go.Proofs.Ytmhngakfjlkchaa
open Go.RowKit

set_option maxHeartbeats 1000000 in
theorem l8Ok_any (a : Option Addr) (c B : Nat) (xs : List Int) (r : Int) (w : World) (hx : Ints .i64 w B a xs) (hl : xs.length ≤ maxLen) :
    Calls Try.prog 30 #[.slice a xs.length c, .int .i64 r] w fun e w' => e = .returned (.bool (tabOk xs r)) ∧ w = w' := by
  have HV := Lib.hid (specBitsValid_any a c B xs w hx hl)
  clear hx hl
  cases hb : bitsOk xs
  · rw [hb] at HV
    have HE := Lib.hid (tabOk_bits (r := r) hb)
    clear hb
    go_enter Try.func30, Try.ntmps30
    go_wp2_with (go_at_call 40; ((with_reducible refine HV.out.mono ?_); rintro e w' ⟨rfl, rfl⟩))
    go_ret
    exact ⟨ret_bool HE.out.symm, rfl⟩
  · rw [hb] at HV
    have HI := Lib.hid (l1In_any r 1 32 w)
    cases hs : side8 r
    · have HE := Lib.hid (tabOk_side (xs := xs) hs)
      rw [show (decide ((1 : Int) ≤ r) && decide (r ≤ 32)) = false from hs] at HI
      clear hb hs
      go_enter Try.func30, Try.ntmps30
      go_wp2_with (first
        | (go_at_call 40; ((with_reducible refine HV.out.mono ?_); rintro e w' ⟨rfl, rfl⟩))
        | (go_at_call 38; ((with_reducible refine HI.out.mono ?_); rintro e w' ⟨rfl, rfl⟩)))
      go_ret
      exact ⟨ret_bool HE.out.symm, rfl⟩
    · obtain ⟨h1, h2⟩ := side8_yes hs
      obtain ⟨R, rfl⟩ := Int.eq_ofNat_of_zero_le (show 0 ≤ r by omega)
      rw [show (decide ((1 : Int) ≤ (R : Int)) && decide ((R : Int) ≤ 32)) = true from hs] at HI
      obtain ⟨q, hq⟩ : ∃ q, q = xs.length % R := ⟨_, rfl⟩
      have HE := Lib.hid (tabOk_eq hs hb)
      rw [← hq] at HE
      have hz0 : ¬ R = 0 := by omega
      have r1 : (xs.length : Int).tmod (R : Int) = (q : Int) := by rw [Int.tmod_eq_emod_of_nonneg (Int.natCast_nonneg _), hq]; rfl
      have r1' : (xs.length : Int) % (R : Int) = (q : Int) := by rw [hq]; rfl
      have HQ : Hid (((q : Int) == 0) = decide (q = 0)) := by
        show ((q : Int) == 0) = decide (q = 0)
        rw [Bool.eq_iff_iff, beq_iff_eq, decide_eq_true_iff]; omega
      clear hb hs h1 h2 hq
      go_enter Try.func30, Try.ntmps30
      go_wp2_with (first
        | (go_at_call 40; ((with_reducible refine HV.out.mono ?_); rintro e w' ⟨rfl, rfl⟩))
        | (go_at_call 38; ((with_reducible refine HI.out.mono ?_); rintro e w' ⟨rfl, rfl⟩)))
      go_ret
      exact ⟨ret_bool (HQ.out.trans HE.out.symm), rfl⟩

/-- A new list that may be appended to. -/
def Fresh8 (xs : List Int) (w : World) (e : Ending) (w' : World) : Prop :=
  ∃ a n cap, e = .returned (.slice a n cap) ∧ Grow .i64 3 w' w.heap.size a n cap xs ∧ Below w.heap.size w w'
theorem Fresh8.post {xs : List Int} {w w' : World} {e : Ending} (h : Fresh8 xs w e w') : ListPostC xs w e w' := by
  obtain ⟨a, n, cap, rfl, h1, h2⟩ := h
  exact listPostC_grow h1 h2
set_option maxHeartbeats 1000000 in
theorem specInterleave_any (a : Option Addr) (c : Nat) (xs : List Int) (r : Int) (w : World) (hx : Ints .i64 w w.heap.size a xs) (hl0 : xs.length ≤ maxLen) :
    Calls Try.prog 12 #[.slice a xs.length c, .int .i64 r] w (Fresh8 (ilvOr xs r) w) := by
  have hal := fun o : Obj => (Below.refl w.heap.size w).alloc (Nat.le_refl _) o
  have HA := Lib.hid hal
  have HK := Lib.hid (fun o : Obj => l8Ok_any a c w.heap.size xs r (w.alloc o) (hx.below (hal o)) hl0)
  cases hok : tabOk xs r
  · rw [hok] at HK
    have HE := Lib.hid (ilvOr_no hok)
    clear hok hx hal hl0
    go_enter Try.func12, Try.ntmps12
    go_wp2_with (go_at_call 30; ((with_reducible refine (HK.out _).mono ?_); rintro e w' ⟨rfl, rfl⟩))
    go_ret
    rw [HE.out]
    exact ⟨_, _, _, rfl, Grow.lit0 _ _ _ _ (Nat.le_refl _), HA.out _⟩
  · rw [hok] at HK
    obtain ⟨R, C, rfl, ⟨hR1, hR2⟩, hb, hl, hC⟩ := tabOk_parts hok
    have hn := bitsOk_length hb
    have hC2 : C ≤ 1024 := by rw [← hC]; exact Nat.le_trans (Nat.div_le_self _ _) hn
    have HE := Lib.hid (ilvOr_yes hok hC)
    have HL := Lib.hid hl
    have HX := Lib.hid hx
    have hz0 : ¬ R = 0 := by omega
    have r3 : IntKind.i64.wrap ((xs.length : Int).tdiv (R : Int)) = (C : Int) := by
      rw [Int.tdiv_eq_ediv_of_nonneg (Int.natCast_nonneg _), show (xs.length : Int) / (R : Int) = ((xs.length / R : Nat) : Int) from rfl, hC]; exact wrap8 (by omega)
    have r3' : wrap64 ((xs.length : Int) / (R : Int)) = (C : Int) := by
      rw [show (xs.length : Int) / (R : Int) = ((xs.length / R : Nat) : Int) from rfl, hC]; exact wrap8' (by omega)
    have HR := Lib.hid (And.intro hR1 hR2)
    clear hok hx hb hl hC hal hl0 hR1 hR2
    go_enter Try.func12, Try.ntmps12
    go_wp2_with (go_at_call 30; ((with_reducible refine (HK.out _).mono ?_); rintro e w' ⟨rfl, rfl⟩))
    rw [r3']
    clear r3 r3' hz0
    go_loopw [5, 7] (fun s i wr => ∃ (k n : Nat) (v : Option Addr) (cap : Nat), (k ≤ C ∧ n = k * R) ∧ i = .int .i64 k ∧ s = .slice v n cap ∧ Grow .i64 3 wr w.heap.size v n cap ((ilv xs R C).take n) ∧ Below w.heap.size w wr) (fun _ i _ => C - (intOf i).toNat)
    case atStart => exact ⟨0, 0, _, _, ⟨Nat.zero_le _, (Nat.zero_mul R).symm⟩, rfl, rfl, Grow.lit0 _ _ _ _ (Nat.le_refl _), HA.out _⟩
    case round =>
      obtain ⟨k, n, v, cap, ⟨hk, hkn⟩, rfl, rfl, hgr, hbel⟩ := hrel
      have HG := Lib.hid hgr
      have HBe := Lib.hid hbel
      have HKN := Lib.hid hkn
      clear hgr hbel hkn
      by_cases hlt : k < C
      · have hkb : decide ((k : Int) < (C : Int)) = true := by rw [decide_eq_true_iff]; omega
        go_wp2
        rename World => W0
        go_loopw [5, 8] (fun s i wr => ∃ (q n : Nat) (v : Option Addr) (cap : Nat), (q ≤ R ∧ n = k * R + q) ∧ i = .int .i64 q ∧ s = .slice v n cap ∧ Grow .i64 3 wr w.heap.size v n cap ((ilv xs R C).take n) ∧ Below w.heap.size w wr) (fun _ i _ => R - (intOf i).toNat)
        case atStart => exact ⟨0, n, _, _, ⟨Nat.zero_le _, HKN.out⟩, rfl, rfl, HG.out, HBe.out⟩
        case round =>
          obtain ⟨q, m, v, cap, ⟨hq, hqm⟩, rfl, rfl, hgr, hbel⟩ := hrel
          have hR32 : R ≤ 32 := HR.out.2
          by_cases hlq : q < R
          · obtain ⟨p, hp⟩ : ∃ p, p = q * C + k := ⟨_, rfl⟩
            have hm : m < xs.length := by
              have h1 : (k + 1) * R ≤ C * R := Nat.mul_le_mul_right R hlt
              rw [Nat.add_mul, Nat.one_mul] at h1
              rw [HL.out, Nat.mul_comm R C]; omega
            have hpe : pm8 R C m = p := by rw [hqm, hp]; exact pm8_at hlq
            have hpx : p < xs.length := by rw [← hpe, HL.out]; exact pm8_lt (by rw [← HL.out]; exact hm)
            obtain ⟨b, off, rfl, hbb, hc⟩ := (HX.out.below hbel).at_ hpx
            have HG2 := Lib.hid hgr
            have HB2 := Lib.hid hbel
            have HT := Lib.hid (show (ilv xs R C).take (m + 1) = (ilv xs R C).take m ++ [el xs p] by rw [take_el (by rw [ilv_length]; exact hm), ilv_el hm, hpe])
            have HQ := Lib.hid (show q + 1 ≤ R ∧ m + 1 = k * R + (q + 1) from ⟨hlq, by rw [hqm]; omega⟩)
            obtain ⟨g, hg⟩ : ∃ g, g = q * C := ⟨_, rfl⟩
            have hgp : g + k = p := by rw [hp, hg]
            have hg1 : g ≤ 4194304 := by omega
            have r5 : IntKind.i64.wrap ((q : Int) * (C : Int)) = (g : Int) := by rw [← Int.natCast_mul, ← hg]; exact wrap8 hg1
            have r6 : IntKind.i64.wrap ((g : Int) + (k : Int)) = (p : Int) := by rw [← Int.natCast_add, hgp]; exact wrap8 (by omega)
            have hsz : w.heap.size ≤ wr.heap.size := hbel.size
            clear hgr hbel hqm hp hg hgp hpe HG HBe
            go_wp2_with (at_builtin; refine wpList_append1 (.tmp 29) (.tmp 38) w.heap.size v m cap ((ilv xs R C).take m) ⟨wr.heap.size, 0, none⟩ (el xs p) rfl rfl rfl rfl (HG2.out.alloc _) (by simp) (by omega) (by simp; omega) ?_; intro a3 cap3 w3 hg3 hb3; have HG3 := Lib.hid hg3; have HB3 := Lib.hid hb3; clear hg3 hb3)
            clear r5 r6
            go_roundw
            case rel => exact ⟨q + 1, m + 1, a3, cap3, HQ.out, by go_num, rfl, by rw [HT.out]; exact HG3.out, (HB2.out.alloc hsz _).trans HB3.out⟩
            case measure => simp [intOf]; omega
          · have HQ := Lib.hid (show k + 1 ≤ C ∧ m = (k + 1) * R from ⟨hlt, by rw [hqm, Nat.add_mul, Nat.one_mul]; omega⟩)
            have HG2 := Lib.hid hgr
            have HB2 := Lib.hid hbel
            clear hgr hbel hqm
            go_wp2
            go_roundw
            case rel => exact ⟨k + 1, m, v, cap, HQ.out, by go_num, rfl, HG2.out, HB2.out⟩
            case measure => simp [intOf]; omega
      · have HT := Lib.hid (show (ilv xs R C).take n = ilv xs R C by
          refine List.take_of_length_le ?_
          rw [ilv_length, HL.out, HKN.out, show k = C by omega, Nat.mul_comm]; exact Nat.le_refl _)
        go_wp2
        go_ret
        rw [HE.out, ← HT.out]
        exact ⟨_, _, _, rfl, HG.out, HBe.out⟩
set_option maxHeartbeats 1000000 in
theorem specDeinterleave_any (a : Option Addr) (c : Nat) (xs : List Int) (r : Int) (w : World) (hx : Ints .i64 w w.heap.size a xs) (hl0 : xs.length ≤ maxLen) :
    Calls Try.prog 16 #[.slice a xs.length c, .int .i64 r] w (ListPostC (dlvOr xs r) w) := by
  have hal := fun o : Obj => (Below.refl w.heap.size w).alloc (Nat.le_refl _) o
  have HA := Lib.hid hal
  have HK := Lib.hid (l8Ok_any a c w.heap.size xs r w hx hl0)
  cases hok : tabOk xs r
  · rw [hok] at HK
    have HE := Lib.hid (dlvOr_no hok)
    clear hok hx hal hl0
    go_enter Try.func16, Try.ntmps16
    go_wp2_with (go_at_call 30; ((with_reducible refine HK.out.mono ?_); rintro e w' ⟨rfl, rfl⟩))
    go_ret
    rw [HE.out]
    exact Fresh8.post ⟨_, _, _, rfl, Grow.lit0 _ _ _ _ (Nat.le_refl _), HA.out _⟩
  · rw [hok] at HK
    obtain ⟨R, C, rfl, ⟨hR1, hR2⟩, hb, hl, hC⟩ := tabOk_parts hok
    have hn := bitsOk_length hb
    have hC2 : C ≤ 1024 := by rw [← hC]; exact Nat.le_trans (Nat.div_le_self _ _) hn
    have HE := Lib.hid (dlvOr_yes hok hC)
    have HL := Lib.hid hl
    have HX := Lib.hid hx
    have hz0 : ¬ R = 0 := by omega
    have r3 : IntKind.i64.wrap ((xs.length : Int).tdiv (R : Int)) = (C : Int) := by
      rw [Int.tdiv_eq_ediv_of_nonneg (Int.natCast_nonneg _), show (xs.length : Int) / (R : Int) = ((xs.length / R : Nat) : Int) from rfl, hC]; exact wrap8 (by omega)
    have r3' : wrap64 ((xs.length : Int) / (R : Int)) = (C : Int) := by
      rw [show (xs.length : Int) / (R : Int) = ((xs.length / R : Nat) : Int) from rfl, hC]; exact wrap8' (by omega)
    have HR := Lib.hid (And.intro hR1 hR2)
    have hmk := run_make_row' (P := Try.prog) 23 3 (.int .i64 0) 8 Try.underlying23 Try.infoInt rfl .i64 .i64 xs.length (by omega) (by omega)
    clear hok hx hb hl hC hal hl0 hR1 hR2
    go_enter Try.func16, Try.ntmps16
    go_wp2_with (go_at_call 30; ((with_reducible refine HK.out.mono ?_); rintro e w' ⟨rfl, rfl⟩))
    rw [r3']
    clear r3 r3' hmk
    go_loopw [7] (fun i wr => ∃ k : Nat, k ≤ xs.length ∧ i = .int .i64 k ∧
        wr.rowIs w.heap.size 3 xs.length (fun j => .int .i64 (if pm8 C R j < k then el (ilv xs C R) j else 0)) ∧ Below w.heap.size w wr) (fun i _ => xs.length - (intOf i).toNat)
    case atStart =>
      refine ⟨0, Nat.zero_le _, rfl, ?_, HA.out _⟩
      exact (World.rowIs_made w (.int .i64 0) xs.length 3).congr (by intro j hj; simp)
    case round =>
      obtain ⟨k, hk, rfl, hrow, hbel⟩ := hrel
      by_cases hlt : k < xs.length
      · have hp : pm8 R C k < xs.length := by rw [HL.out]; exact pm8_lt (by rw [← HL.out]; exact hlt)
        obtain ⟨b, off, rfl, hbb, hc⟩ := (HX.out.below hbel).at_ hlt
        have H2 := Lib.hid (row_dlv hrow rfl HL.out hlt)
        obtain ⟨q, hq⟩ : ∃ q, q = k % R := ⟨_, rfl⟩
        obtain ⟨d, hd⟩ : ∃ d, d = k / R := ⟨_, rfl⟩
        obtain ⟨m, hm⟩ : ∃ m, m = q * C := ⟨_, rfl⟩
        obtain ⟨p, hpp⟩ : ∃ p, p = pm8 R C k := ⟨_, rfl⟩
        have hs : p = m + d := by rw [hpp, hm, hq, hd]; rfl
        rw [← hpp] at hp H2
        have hqR : q < R := by rw [hq]; exact Nat.mod_lt _ HR.out.1
        have hdk : d ≤ k := by rw [hd]; exact Nat.div_le_self _ _
        have hf := hrow.frozen p
        have hcv := hrow.cell hp
        have hk0 : (0 : Int) ≤ (k : Int) := Int.natCast_nonneg k
        have hB := Lib.hid (hbel.setCell (p := ⟨w.heap.size, p, none⟩) (Nat.le_refl _) (.int .i64 (el xs k)))
        have hpb : p < xs.length := hp
        have hm1 : m ≤ 4194304 := by omega
        have hd1 : d ≤ 4194304 := by omega
        have hp1 : p ≤ 4194304 := by omega
        have r1 : (k : Int).tmod (R : Int) = (q : Int) := by rw [Int.tmod_eq_emod_of_nonneg hk0, hq]; rfl
        have r2 : IntKind.i64.wrap ((q : Int) * (C : Int)) = (m : Int) := by rw [← Int.natCast_mul, ← hm]; exact wrap8 hm1
        have r3 : IntKind.i64.wrap ((k : Int).tdiv (R : Int)) = (d : Int) := by
          rw [Int.tdiv_eq_ediv_of_nonneg hk0, show (k : Int) / (R : Int) = ((k / R : Nat) : Int) from rfl, ← hd]; exact wrap8 hd1
        have r3' : wrap64 ((k : Int) / (R : Int)) = (d : Int) := by
          rw [show (k : Int) / (R : Int) = ((k / R : Nat) : Int) from rfl, ← hd]; exact wrap8' hd1
        have r4 : IntKind.i64.wrap ((m : Int) + (d : Int)) = (p : Int) := by rw [← Int.natCast_add, ← hs]; exact wrap8 hp1
        have hz : ((R : Int) == 0) = false := by rw [beq_eq_false_iff_ne]; exact fun h => hz0 (by exact_mod_cast h)
        clear hrow hbel hpp hs hq hd hm hqR hdk hk0 hm1 hd1 hp1
        go_wp2
        go_region
        clear hcv hf r1 r2 r3 r3' r4
        go_wp2
        go_roundw
        case rel => exact ⟨k + 1, by omega, by go_num, H2.out, hB.out.drew⟩
        case measure => simp [intOf]; omega
      · have HK := Lib.hid (show k = xs.length by omega)
        have H1 := Lib.hid (hrow.congr (g := fun j => .int .i64 (el (ilv xs C R) j)) (by intro j hj; have h3 : pm8 C R j < C * R := pm8_lt (by rw [Nat.mul_comm C R, ← HL.out]; exact hj); rw [Nat.mul_comm C R, ← HL.out] at h3; simp [show pm8 C R j < k by omega]))
        have HBe := Lib.hid hbel
        clear hrow hbel
        go_wp2
        go_ret
        rw [HE.out]
        exact listPostC_row H1.out (ilv_length _ _ _).symm (by unfold maxLen; omega) (Nat.le_refl _) HBe.out
end Go.Proofs.Ytmhngakfjlkchaa
