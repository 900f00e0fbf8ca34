/-
  What the functions on generator polynomials answer, and their models: valid or not, and the degree. Conditions: the number is one of 64 bits; the degree is asked of a valid one.
-/
import Derived.Test.YtflplihhakepfaaDoorBits1
import Derived.Test.YtflplihhakepfaaDoorDraws
import Derived.Lib.Strings
import Derived.Lib.Slices
import Derived.Lib.Small
import Derived.Lib.Walk
import Derived.Lib.BitFns
namespace Go.Proofs.YtflplihhakepfaaDoor
open Go.RowKit

def genOk (g : Int) : Bool := decide (1 < g) && decide (g < 131072) && decide (g % 2 = 1)
def deg (g : Int) : Nat := g.toNat.log2
def degOr (g : Int) : Int := if genOk g then (deg g : Int) else -1
theorem genOk_parts {g : Int} (h : genOk g = true) : 1 < g ∧ g < 131072 ∧ g % 2 = 1 := by
  simpa [genOk, and_assoc] using h
theorem and_one {g : Int} (h0 : 0 ≤ g) (h1 : g < 131072) : bits .and .i64 g 1 = g % 2 := by
  obtain ⟨n, rfl⟩ := Int.eq_ofNat_of_zero_le h0
  have h := i64_and n 1 (by omega) (by omega)
  rw [Nat.and_one_is_mod] at h
  simpa using h

theorem genValid_any (g : Int) (w : World) : Calls Tryd.prog 49 #[.int .i64 g] w fun e w' => e = .returned (.bool (genOk g)) ∧ w = w' := by
  by_cases h1 : 1 < g
  · by_cases h2 : g < 131072
    · have ha := and_one (g := g) (by omega) h2
      have HE : Hid ((bits .and .i64 g 1 == 1) = genOk g) := by
        rw [ha]; simp [genOk, h1, h2]; rfl
      clear ha
      go_enter Tryd.func49, Tryd.ntmps49
      go_wp2
      go_ret
      exact ⟨ret_bool HE.out, rfl⟩
    · have HE := Lib.hid (show genOk g = false by simp [genOk, h2])
      go_enter Tryd.func49, Tryd.ntmps49
      go_wp2
      go_ret
      exact ⟨ret_bool HE.out.symm, rfl⟩
  · have HE := Lib.hid (show genOk g = false by simp [genOk, h1])
    go_enter Tryd.func49, Tryd.ntmps49
    go_wp2
    go_ret
    exact ⟨ret_bool HE.out.symm, rfl⟩

theorem specGenValid_any (g : Int) (w : World) : Calls Tryd.prog 46 #[.int .i64 g] w fun e w' => e = .returned (.bool (genOk g)) ∧ w = w' := by
  by_cases h : 2 ≤ g ∧ g ≤ 131071
  · have hin : (decide ((2 : Int) ≤ g) && decide (g ≤ 131071)) = true := by simp [h]
    have hc := l1In_any g 2 131071 w
    rw [hin] at hc
    have HC := Lib.hid hc
    have HE : Hid ((g % 2 == 1) = genOk g) := by
      have h1 : 1 < g := by omega
      have h2 : g < 131072 := by omega
      simp [genOk, h1, h2]; rfl
    have h0 : 0 ≤ g := by omega
    clear hc hin
    go_enter Tryd.func46, Tryd.ntmps46
    go_wp2_with (go_at_call 53; refine HC.out.mono ?_; rintro e w' ⟨rfl, rfl⟩)
    go_ret
    exact ⟨ret_bool HE.out, rfl⟩
  · have hin : (decide ((2 : Int) ≤ g) && decide (g ≤ 131071)) = false := by
      simp only [Bool.and_eq_false_iff, decide_eq_false_iff_not]; omega
    have hc := l1In_any g 2 131071 w
    rw [hin] at hc
    have HC := Lib.hid hc
    have HE : Hid (genOk g = false) := by
      show _ = _
      rw [Bool.eq_false_iff]
      intro hh
      have := genOk_parts hh
      omega
    clear hc hin h
    go_enter Tryd.func46, Tryd.ntmps46
    go_wp2_with (go_at_call 53; refine HC.out.mono ?_; rintro e w' ⟨rfl, rfl⟩)
    go_ret
    exact ⟨ret_bool HE.out.symm, rfl⟩

theorem bitLenAux_log2 : ∀ f x : Nat, x ≠ 0 → x < 2 ^ f → Lib.bitLenAux f x = x.log2 + 1 := by
  intro f
  induction f with
  | zero => intro x h0 h; simp at h; omega
  | succ f ih =>
    intro x h0 h
    rw [Nat.pow_succ] at h
    rw [Lib.bitLenAux, if_neg h0, Nat.log2_def]
    by_cases h2 : 2 ≤ x
    · rw [ih (x / 2) (by omega) (by omega), if_pos h2]; omega
    · rw [if_neg h2, show x / 2 = 0 by omega]
      cases f <;> simp [Lib.bitLenAux]
theorem bitLen_log2 {x : Nat} (h0 : x ≠ 0) (h : x < 131072) : Lib.bitLen x = x.log2 + 1 := bitLenAux_log2 64 x h0 (by omega)

set_option maxHeartbeats 1000000 in
theorem len64_any (x : Int) (w : World) (h0 : 0 ≤ x) (h1 : x < 131072) :
    Calls Tryd.prog 66 #[.int .u64 x] w fun e w' => e = .returned (.int .i64 (Lib.bitLen x.toNat)) ∧ w = w' := by
  by_cases ha : x < 256
  · have hb : x ≤ 255 := by omega
    have HE := Lib.hid (Lib.len8_of x h0 hb)
    have HL := Lib.hid (Lib.bitLen_le8' x h0 hb)
    go_enter Tryd.func66, Tryd.ntmps66
    go_wp2
    go_ret
    have e := HE.out
    have l := HL.out
    exact ⟨ret_int (by rw [e]; simp only [wrap64]; omega), rfl⟩
  · by_cases hb : x < 65536
    · have y0 : 0 ≤ x / 256 := by omega
      have y1 : x / 256 ≤ 255 := by omega
      have HE := Lib.hid (Lib.len8_of (x / 256) y0 y1)
      have HL := Lib.hid (Lib.bitLen_le8' (x / 256) y0 y1)
      have HS := Lib.hid (Lib.bitLen_shift8 x.toNat (by omega) (by omega))
      have HT : Hid ((x / 256).toNat = x.toNat / 256) := by show _ = _; omega
      go_enter Tryd.func66, Tryd.ntmps66
      go_wp2
      go_ret
      have e := HE.out
      have l := HL.out
      have s := HS.out
      rw [HT.out] at e l
      exact ⟨ret_int (by rw [e, s]; simp only [wrap64]; omega), rfl⟩
    · have y0 : 0 ≤ x / 65536 := by omega
      have y1 : x / 65536 ≤ 255 := by omega
      have y2 : x / 65536 < 256 := by omega
      have HE := Lib.hid (Lib.len8_of (x / 65536) y0 y1)
      have HL := Lib.hid (Lib.bitLen_le8' (x / 65536) y0 y1)
      have HS := Lib.hid (Lib.bitLen_shift16 x.toNat (by omega) (by omega))
      have HT : Hid ((x / 65536).toNat = x.toNat / 65536) := by show _ = _; omega
      go_enter Tryd.func66, Tryd.ntmps66
      go_wp2
      go_ret
      have e := HE.out
      have l := HL.out
      have s := HS.out
      rw [HT.out] at e l
      exact ⟨ret_int (by rw [e, s]; simp only [wrap64]; omega), rfl⟩
theorem len_any (x : Int) (w : World) (h0 : 0 ≤ x) (h1 : x < 131072) :
    Calls Tryd.prog 61 #[.int .u64 x] w fun e w' => e = .returned (.int .i64 (Lib.bitLen x.toNat)) ∧ w = w' := by
  go_enter Tryd.func61, Tryd.ntmps61
  go_wp2_with (go_at_call 66; refine (len64_any x _ h0 h1).mono ?_; rintro e w' ⟨rfl, rfl⟩)
  go_ret
  exact ⟨rfl, rfl⟩
theorem deg_lt {g : Int} (h : genOk g = true) : 1 ≤ deg g ∧ deg g ≤ 16 := by
  obtain ⟨h1, h2, _⟩ := genOk_parts h
  unfold deg
  have hne : g.toNat ≠ 0 := by omega
  refine ⟨(Nat.le_log2 hne).2 (by omega), ?_⟩
  have : g.toNat.log2 < 17 := (Nat.log2_lt hne).2 (by omega)
  omega
theorem deg_pow {g : Int} (h : genOk g = true) : 2 ^ deg g ≤ g.toNat ∧ g.toNat < 2 ^ (deg g + 1) := by
  obtain ⟨h1, h2, _⟩ := genOk_parts h
  have hne : g.toNat ≠ 0 := by omega
  exact ⟨Nat.log2_self_le hne, Nat.lt_log2_self⟩
theorem degreeOf_any (g : Int) (w : World) : Calls Tryd.prog 50 #[.int .i64 g] w fun e w' => e = .returned (.int .i64 (degOr g)) ∧ w = w' := by
  have hc := genValid_any g w
  cases hg : genOk g
  · rw [hg] at hc
    have HC := Lib.hid hc
    have HE := Lib.hid (show degOr g = -1 by simp [degOr, hg])
    clear hc hg
    go_enter Tryd.func50, Tryd.ntmps50
    go_wp2_with (go_at_call 49; refine HC.out.mono ?_; rintro e w' ⟨rfl, rfl⟩)
    go_ret
    exact ⟨ret_int HE.out.symm, rfl⟩
  · rw [hg] at hc
    obtain ⟨h1, h2, _⟩ := genOk_parts hg
    have hl := len_any g w (by omega) h2
    have hb := bitLen_log2 (x := g.toNat) (by omega) (by omega)
    have hd := deg_lt hg
    have hd1 := hd.1
    have hd2 := hd.2
    rw [show Lib.bitLen g.toNat = deg g + 1 from hb] at hl
    have HE := Lib.hid (show degOr g = (deg g : Int) by simp [degOr, hg])
    have HC := Lib.hid hc
    have HL := Lib.hid hl
    clear hc hl hb hg hd
    go_enter Tryd.func50, Tryd.ntmps50
    go_wp2_with (first | (go_at_call 49; refine HC.out.mono ?_; rintro e w' ⟨rfl, rfl⟩) | (go_at_call 61; refine HL.out.mono ?_; rintro e w' ⟨rfl, rfl⟩))
    go_ret
    exact ⟨ret_int (by have := HE.out; omega), rfl⟩
theorem log2_half {n : Nat} (h : 2 ≤ n) : n.log2 = (n / 2).log2 + 1 := by
  rw [Nat.log2_def, if_pos h]
theorem l2Degree_any (g : Int) (w : World) (h0 : 1 ≤ g) (h1 : g < 131072) :
    Calls Tryd.prog 47 #[.int .i64 g] w fun e w' => e = .returned (.int .i64 (deg g)) ∧ w = w' := by
  have hlt : g.toNat.log2 < 17 := (Nat.log2_lt (by omega)).2 (by omega)
  have hdl : deg g < 17 := hlt
  clear hlt
  go_enter Tryd.func47, Tryd.ntmps47
  go_wp2
  go_loop [0, 3] (fun x n => ∃ m k : Nat, x = .int .i64 m ∧ n = .int .i64 k ∧ 1 ≤ m ∧ m < 131072 ∧ m.log2 + k = deg g) (fun x _ => (intOf x).toNat)
  case atStart => exact ⟨g.toNat, 0, by rw [Int.toNat_of_nonneg (by omega)], rfl, by omega, by omega, rfl⟩
  case round =>
    obtain ⟨m, k, rfl, rfl, hm1, hm2, hk⟩ := hrel
    by_cases h : 1 < m
    · have hl := log2_half (n := m) (by omega)
      have HK : Hid ((m / 2).log2 + (k + 1) = deg g) := by show _ = _; omega
      have hkl : k < 17 := by omega
      clear hk hl
      go_wp2
      go_round
      case rel => exact ⟨m / 2, k + 1, by go_num, by go_num, by omega, by omega, HK.out⟩
      case measure => simp [intOf]; omega
    · have hm : m = 1 := by omega
      subst hm
      have hk1 : k = deg g := by
        have : Nat.log2 1 = 0 := by decide
        omega
      subst hk1
      clear hk
      go_wp2
      go_ret
      exact ⟨rfl, rfl⟩
end Go.Proofs.YtflplihhakepfaaDoor
