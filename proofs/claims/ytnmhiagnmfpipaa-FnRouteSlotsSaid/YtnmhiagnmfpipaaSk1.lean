/-
  Tables of conflicts in memory, sets of stations as numbers of 16 bits; what the methods of sets answer. Conditions: sets of at most ten stations.
-/
import Derived.Test.YtnmhiagnmfpipaaMem1
import Derived.Test.YtnmhiagnmfpipaaSkMath
namespace Go.Proofs.Ytnmhiagnmfpipaa
open Go.RowKit

/-- Row i of a table; whether two stations are in conflict. -/
def rwB (R : List (List Bool)) (i : Nat) : List Bool := R.getD i []
def cf (R : List (List Bool)) (i j : Nat) : Bool := bt (rwB R i) j
/-- The slice that begins at a holds the rows R, all of it in blocks below B. -/
def TbL (w : World) (B : Nat) (a : Option Addr) (R : List (List Bool)) : Prop :=
  R ≠ [] → ∃ b off : Nat, a = some (⟨b, off, none⟩ : Addr) ∧ b < B ∧ ∀ i, i < R.length → ∃ ad cp, w.cell? ⟨b, off + i, none⟩ = some (.slice ad (rwB R i).length cp) ∧ (rwB R i).length ≤ cp ∧ cp ≤ maxLen ∧ Bls w B ad (rwB R i)
section
variable {w w' : World} {B B' : Nat} {a : Option Addr} {R : List (List Bool)}
theorem TbL.at_ (h : TbL w B a R) {i : Nat} (hi : i < R.length) : ∃ (b off : Nat) (ad : Option Addr) (cp : Nat), a = some (⟨b, off, none⟩ : Addr) ∧ w.cell? ⟨b, off + i, none⟩ = some (.slice ad (rwB R i).length cp) ∧ (rwB R i).length ≤ cp ∧ cp ≤ maxLen ∧ Bls w B ad (rwB R i) := by
  obtain ⟨b, off, e, _, hc⟩ := h (by intro e; subst e; simp at hi)
  obtain ⟨ad, cp, h1, h2⟩ := hc i hi
  exact ⟨b, off, ad, cp, e, h1, h2⟩
theorem TbL.below (h : TbL w B a R) (hb : Below B w w') : TbL w' B a R := fun hn => by
  obtain ⟨b, off, e, h1, hc⟩ := h hn
  refine ⟨b, off, e, h1, fun i hi => ?_⟩
  obtain ⟨ad, cp, h2, h3, h4, h5⟩ := hc i hi
  exact ⟨ad, cp, (hb.cell h1).trans h2, h3, h4, h5.below hb⟩
theorem TbL.more (h : TbL w B a R) (hB : B ≤ B') : TbL w B' a R := fun hn => by
  obtain ⟨b, off, e, h1, hc⟩ := h hn
  refine ⟨b, off, e, Nat.lt_of_lt_of_le h1 hB, fun i hi => ?_⟩
  obtain ⟨ad, cp, h2, h3, h4, h5⟩ := hc i hi
  exact ⟨ad, cp, h2, h3, h4, h5.more hB⟩
theorem TbL.next (h : TbL w w.heap.size a R) (hb : Below w.heap.size w w') : TbL w' w'.heap.size a R := (h.below hb).more hb.size
theorem TbL.drewN (h : TbL w B a R) (n : Nat) : TbL (w.drewN n) B a R := h
end
/-- Numbers of 16 bits. -/
theorem and_u16 (a b : Nat) (ha : a < 65536) (hb : b < 65536) : bits .and .u16 (a : Int) (b : Int) = ((a &&& b : Nat) : Int) := by
  have hx : a &&& b < 2 ^ 16 := Nat.and_lt_two_pow _ (by omega)
  have h1 : (BitVec.ofInt 16 (a : Int)).toNat = a := by rw [BitVec.ofInt_natCast, BitVec.toNat_ofNat]; exact Nat.mod_eq_of_lt (by omega)
  have h2 : (BitVec.ofInt 16 (b : Int)).toNat = b := by rw [BitVec.ofInt_natCast, BitVec.toNat_ofNat]; exact Nat.mod_eq_of_lt (by omega)
  show IntKind.u16.wrap ((BitVec.ofInt 16 (a : Int) &&& BitVec.ofInt 16 (b : Int)).toNat : Int) = _
  rw [BitVec.toNat_and, h1, h2, IntKind.wrap_u16]
  omega
theorem or_u16 (a b : Nat) (ha : a < 65536) (hb : b < 65536) : bits .or .u16 (a : Int) (b : Int) = ((a ||| b : Nat) : Int) := by
  have hx : a ||| b < 2 ^ 16 := Nat.or_lt_two_pow (by omega) (by omega)
  have h1 : (BitVec.ofInt 16 (a : Int)).toNat = a := by rw [BitVec.ofInt_natCast, BitVec.toNat_ofNat]; exact Nat.mod_eq_of_lt (by omega)
  have h2 : (BitVec.ofInt 16 (b : Int)).toNat = b := by rw [BitVec.ofInt_natCast, BitVec.toNat_ofNat]; exact Nat.mod_eq_of_lt (by omega)
  show IntKind.u16.wrap ((BitVec.ofInt 16 (a : Int) ||| BitVec.ofInt 16 (b : Int)).toNat : Int) = _
  rw [BitVec.toNat_or, h1, h2, IntKind.wrap_u16]
  omega
theorem andNot_u16 (a b d : Nat) (ha : a < 65536) (hb : b < 65536) (hd : ∀ j, d.testBit j = (a.testBit j && !b.testBit j)) : bits .andNot .u16 (a : Int) (b : Int) = (d : Int) := by
  have h1 : (BitVec.ofInt 16 (a : Int)).toNat = a := by rw [BitVec.ofInt_natCast, BitVec.toNat_ofNat]; exact Nat.mod_eq_of_lt (by omega)
  have h2 : (BitVec.ofInt 16 (b : Int)).toNat = b := by rw [BitVec.ofInt_natCast, BitVec.toNat_ofNat]; exact Nat.mod_eq_of_lt (by omega)
  have h3 : a &&& (2 ^ 16 - 1 - b) = d := Nat.eq_of_testBit_eq fun j => by
    rw [Nat.testBit_and, hd, show 2 ^ 16 - 1 - b = 2 ^ 16 - (b + 1) by omega, Nat.testBit_two_pow_sub_succ (by omega)]
    by_cases hj : j < 16
    · simp [hj]
    · rw [Nat.testBit_lt_two_pow (x := a) (i := j) (Nat.lt_of_lt_of_le (show a < 2 ^ 16 by omega) (Nat.pow_le_pow_right (by omega) (by omega)))]
      simp
  have hx : d < 2 ^ 16 := by rw [← h3]; exact Nat.and_lt_two_pow _ (by omega)
  show IntKind.u16.wrap ((BitVec.ofInt 16 (a : Int) &&& ~~~BitVec.ofInt 16 (b : Int)).toNat : Int) = _
  rw [BitVec.toNat_and, BitVec.toNat_not, h1, h2, h3, IntKind.wrap_u16]
  omega
theorem pow_lt16 {i : Nat} (h : i < 16) : 2 ^ i < 65536 := (Nat.pow_lt_pow_iff_right (a := 2) (by omega)).2 h
theorem shl_u16 {i : Nat} (h : i < 16) : IntKind.u16.wrap ((2 : Int) ^ i) = ((2 ^ i : Nat) : Int) := by
  have hp := pow_lt16 h
  have h2 : ((2 : Int) ^ i) = ((2 ^ i : Nat) : Int) := (Int.natCast_pow 2 _).symm
  rw [h2, IntKind.wrap_u16]
  generalize 2 ^ i = q at hp
  omega
set_option maxRecDepth 10000 in
theorem setHas_is (S i : Nat) (b : Bool) (w : World) (hS : S < 65536) (hi : i < 16) (hb : S.testBit i = b) :
    Calls Try.prog 77 #[.int .u16 (S : Int), .int .i64 (i : Int)] w fun e w' => e = .returned (.bool b) ∧ w = w' := by
  have HE : Hid ((bits .and .u16 ((S : Int) / 2 ^ i) 1 == 1) = b) := by
    show _ = b
    have h2 : ((S : Int) / 2 ^ i) = ((S / 2 ^ i : Nat) : Int) := by rw [Int.natCast_ediv, Int.natCast_pow]; rfl
    have h3 := and_u16 (S / 2 ^ i) 1 (Nat.lt_of_le_of_lt (Nat.div_le_self _ _) hS) (by omega)
    rw [h2, show (1 : Int) = ((1 : Nat) : Int) from rfl, h3, Nat.and_one_is_mod, ← hb, Nat.testBit_eq_decide_div_mod_eq]
    rcases Nat.mod_two_eq_zero_or_one (S / 2 ^ i) with h | h <;> rw [h] <;> rfl
  clear hb
  go_enter Try.func77, Try.ntmps77
  go_wp2
  go_ret
  exact ⟨ret_bool HE.out, rfl⟩
set_option maxRecDepth 10000 in
theorem setWith_is (S i d : Nat) (w : World) (hS : S < 65536) (hi : i < 16) (hd : S ||| 2 ^ i = d) :
    Calls Try.prog 57 #[.int .u16 (S : Int), .int .i64 (i : Int)] w fun e w' => e = .returned (.int .u16 (d : Int)) ∧ w = w' := by
  have HE : Hid (bits .or .u16 (S : Int) (IntKind.u16.wrap ((2 : Int) ^ i)) = (d : Int)) := by
    show _ = (d : Int)
    rw [shl_u16 hi, or_u16 _ _ hS (pow_lt16 hi), hd]
  clear hd
  go_enter Try.func57, Try.ntmps57
  go_wp2
  go_ret
  exact ⟨ret_int HE.out, rfl⟩
set_option maxRecDepth 10000 in
theorem setMeets_is (S U : Nat) (b : Bool) (w : World) (hS : S < 65536) (hU : U < 65536) (hb : decide (S &&& U ≠ 0) = b) :
    Calls Try.prog 59 #[.int .u16 (S : Int), .int .u16 (U : Int)] w fun e w' => e = .returned (.bool b) ∧ w = w' := by
  have HE : Hid ((bits .and .u16 (S : Int) (U : Int) != 0) = b) := by
    show _ = b
    rw [and_u16 _ _ hS hU, ← hb]
    by_cases h : S &&& U = 0
    · rw [h]; rfl
    · rw [decide_eq_true h]; simp [h]
  clear hb
  go_enter Try.func59, Try.ntmps59
  go_wp2
  go_ret
  exact ⟨ret_bool HE.out, rfl⟩
theorem setHas_q (S i : Nat) (b : Bool) (w : World) (hS : S < 65536) (hi : i < 16) (hb : S.testBit i = b) :
    Calls Try.prog 77 #[.int .u16 (S : Int), .int .i64 (i : Int)] w fun e w' => e = .returned (.bool b) ∧ w' = w := (setHas_is S i b w hS hi hb).mono fun _ _ ⟨h1, h2⟩ => ⟨h1, h2.symm⟩
theorem setWith_q (S i d : Nat) (w : World) (hS : S < 65536) (hi : i < 16) (hd : S ||| 2 ^ i = d) :
    Calls Try.prog 57 #[.int .u16 (S : Int), .int .i64 (i : Int)] w fun e w' => e = .returned (.int .u16 (d : Int)) ∧ w' = w := (setWith_is S i d w hS hi hd).mono fun _ _ ⟨h1, h2⟩ => ⟨h1, h2.symm⟩
theorem setMeets_q (S U : Nat) (b : Bool) (w : World) (hS : S < 65536) (hU : U < 65536) (hb : decide (S &&& U ≠ 0) = b) :
    Calls Try.prog 59 #[.int .u16 (S : Int), .int .u16 (U : Int)] w fun e w' => e = .returned (.bool b) ∧ w' = w := (setMeets_is S U b w hS hU hb).mono fun _ _ ⟨h1, h2⟩ => ⟨h1, h2.symm⟩
set_option maxRecDepth 10000 in
set_option maxHeartbeats 1000000 in
theorem setOfRow_is (a : Option Addr) (c B S : Nat) (ls : List Bool) (w : World) (hx : Bls w B a ls) (hl : ls.length ≤ 10) (hS : stN (bt ls) ls.length = S) :
    Calls Try.prog 70 #[.slice a ls.length c] w fun e w' => e = .returned (.int .u16 (S : Int)) ∧ w = w' := by
  have HX := Lib.hid hx
  have HS := Lib.hid hS
  clear hx hS
  go_enter Try.func70, Try.ntmps70
  go_wp2
  go_loop [3, 8] (fun s i => ∃ k q : Nat, k ≤ ls.length ∧ i = .int .i64 (k : Int) ∧ s = .int .u16 (q : Int) ∧ q = stN (bt ls) k) (fun _ i => ls.length - (intOf i).toNat)
  case atStart => exact ⟨0, 0, Nat.zero_le _, rfl, rfl, rfl⟩
  case round =>
    obtain ⟨k, q, hk, rfl, rfl, hq⟩ := hrel
    have HQ := Lib.hid hq
    have hq1 : q < 1024 := by rw [hq]; exact stN_lt10 _ (by omega)
    clear hq
    by_cases hlt : k < ls.length
    · obtain ⟨b, off, rfl, hb, hc⟩ := HX.out.at_ hlt
      cases hv : bt ls k
      · rw [hv] at hc
        have HE := Lib.hid (show q = stN (bt ls) (k + 1) by rw [stN, hv, HQ.out]; rfl)
        clear hv
        go_wp2
        go_round
        case rel => exact ⟨k + 1, q, by omega, by go_num, rfl, HE.out⟩
        case measure => simp [intOf]; omega
      · rw [hv] at hc
        have HE := Lib.hid (show q ||| 2 ^ k = stN (bt ls) (k + 1) by rw [stN, hv, HQ.out]; rfl)
        obtain ⟨d, hd⟩ : ∃ d, d = q ||| 2 ^ k := ⟨_, rfl⟩
        rw [← hd] at HE
        have HW := Lib.hid (fun W => setWith_is q k d W (by omega) (by omega) hd.symm)
        clear hv hd
        go_wp2_with (go_at_call 57; ((with_reducible refine (HW.out _).mono ?_); rintro e w1 ⟨rfl, rfl⟩))
        go_round
        case rel => exact ⟨k + 1, d, by omega, by go_num, rfl, HE.out⟩
        case measure => simp [intOf]; omega
    · obtain rfl : ls.length = k := by omega
      have HE := Lib.hid (show (q : Int) = (S : Int) by rw [HQ.out, HS.out])
      go_wp2
      go_ret
      exact ⟨ret_int HE.out, rfl⟩
end Go.Proofs.Ytnmhiagnmfpipaa
