/-
  What the models of chapter 12 answer, for all arguments. Conditions: lists that can be read, their lengths can be.
-/
import Derived.Test.YtnnknfpkbhcghaaWs2
import Derived.Test.YtnnknfpkbhcghaaBits1
import Derived.BigQuiet
namespace Go.Proofs.Ytnnknfpkbhcghaa
open Go.RowKit

theorem andW : ∀ k : Nat, k < 8 → ∀ h : Nat, h < 8 → bits .and .i64 (k : Int) (h : Int) = ((k &&& h : Nat) : Int) := by decide +kernel
theorem andW_lt {k h : Nat} (hk : k < 8) : k &&& h < 8 := Nat.lt_of_le_of_lt Nat.and_le_left hk
theorem sgN_next {x : Nat} (h : x < 8) : sgN x = x % 2 + sgN (x / 2) := by unfold sgN; omega
theorem sgN_le (x : Nat) : sgN x ≤ 3 := by unfold sgN; omega
set_option maxHeartbeats 1000000 in
theorem l12Sign_is (k j : Nat) (w : World) (hk : k < 8) (hj : j < 8) : Calls Try.prog 41 #[.int .i64 k, .int .i64 j] w fun e w' => e = .returned (.int .i64 (sg k j)) ∧ w = w' := by
  have hb := andW k hk j hj
  have hx := andW_lt (h := j) hk
  have HE := Lib.hid (show sg k j = 1 - 2 * ((sgN (k &&& j) % 2 : Nat) : Int) from rfl)
  generalize k &&& j = X at *
  generalize sg k j = S at *
  have HX := Lib.hid hx
  clear hk hj hx
  go_enter Try.func41, Try.ntmps41
  go_wp2
  go_loop [5, 6] (fun n x => ∃ a b : Nat, n = .int .i64 a ∧ x = .int .i64 b ∧ b < 8 ∧ a ≤ 3 ∧ a + sgN b = sgN X) (fun _ x => (intOf x).toNat)
  case atStart => exact ⟨0, X, rfl, rfl, HX.out, by omega, by omega⟩
  case round =>
    obtain ⟨a, b, rfl, rfl, hb8, ha3, hab⟩ := hrel
    by_cases h0 : 0 < b
    · have h0' : (0 : Int) < (b : Int) := by omega
      obtain ⟨r, hr⟩ : ∃ r, r = b % 2 := ⟨_, rfl⟩
      obtain ⟨d, hd⟩ : ∃ d, d = b / 2 := ⟨_, rfl⟩
      have HN := Lib.hid (show d < 8 ∧ a + r ≤ 3 ∧ (a + r) + sgN d = sgN X ∧ d < b by
        have h1 := sgN_next hb8
        rw [← hr, ← hd] at h1
        have := sgN_le X
        exact ⟨by omega, by omega, by omega, by omega⟩)
      have hd8 : -1000000000000 ≤ (d : Int) ∧ (d : Int) ≤ 1000000000000 := by omega
      have e1 : (b : Int).tmod 2 = (r : Int) := by rw [Int.tmod_eq_emod_of_nonneg (by omega), hr]; rfl
      have e2 : (b : Int) / 2 = (d : Int) := by rw [hd]; rfl
      have HW3 := Lib.hid (wrapW' hd8)
      have hr2 : r < 2 := by rw [hr]; exact Nat.mod_lt _ (by decide)
      clear hr hd hab hb8 hd8
      go_wp2
      go_round
      case rel => exact ⟨a + r, d, by go_num, by rw [HW3.out], HN.out.1, HN.out.2.1, HN.out.2.2.1⟩
      case measure =>
        rw [HW3.out]
        have := HN.out.2.2.2
        show (d : Int).toNat < (b : Int).toNat
        clear e1 e2
        omega
    · obtain rfl : b = 0 := by omega
      have hs : a = sgN X := by have : sgN 0 = 0 := rfl; omega
      obtain ⟨r, hr⟩ : ∃ r, r = a % 2 := ⟨_, rfl⟩
      have e1 : (a : Int).tmod 2 = (r : Int) := by rw [Int.tmod_eq_emod_of_nonneg (by omega), hr]; rfl
      have hr2 : r < 2 := by rw [hr]; exact Nat.mod_lt _ (by decide)
      rw [← hs, ← hr] at HE
      clear hr hs hab
      go_wp2
      go_ret
      exact ⟨ret_int HE.out.symm, rfl⟩
theorem l1In_k (k : Int) (b : Bool) (w : World) (h : kOk k = b) : Calls Try.prog 40 #[.int .i64 k, .int .i64 0, .int .i64 7] w fun e w' => e = .returned (.bool b) ∧ w = w' := by
  subst h; exact l1In_any k 0 7 w
set_option maxHeartbeats 1000000 in
theorem specWalshCode_any (k : Int) (w : World) : Calls Try.prog 17 #[.int .i64 k] w (ListPostC (walOr k) w) := by
  have HB0 := Lib.hid (alloc_belowX w (.cells #[] 3))
  cases hk : kOk k
  · have H1 := Lib.hid (fun W => l1In_k k false W hk)
    have HE := Lib.hid (walOr_no (kOk_no hk))
    clear hk
    go_enter Try.func17, Try.ntmps17
    go_wp2
    go_loopw [3, 4] (fun s i wr => i = .int .i64 0 ∧ wr = w.alloc (.cells #[] 3) ∧ s = .slice (some ⟨w.heap.size, 0, none⟩) 0 0) (fun _ _ _ => 0)
    case atStart => exact ⟨rfl, rfl, rfl⟩
    case round =>
      obtain ⟨rfl, rfl, rfl⟩ := hrel
      go_wp2_with (go_at_call 40; ((with_reducible refine (H1.out _).mono ?_); rintro e w1 ⟨rfl, rfl⟩))
      go_ret
      rw [HE.out]
      exact listPostC_grow (Grow.lit0 _ _ _ _ (Nat.le_refl _)) HB0.out
  · have H1 := Lib.hid (fun W => l1In_k k true W hk)
    obtain ⟨K, hK, rfl⟩ := kOk_nat hk
    have HE := Lib.hid (walOr_yes hK)
    have HS := Lib.hid (fun (j : Nat) (hj : j < 8) W => l12Sign_is K j W hK hj)
    have HN := Lib.hid (fun j => map_one (sg K) j)
    have HD := Lib.hid (show wal K = (List.range 8).map (sg K) from rfl)
    clear hk hK
    go_enter Try.func17, Try.ntmps17
    go_wp2
    go_loopw [3, 4] (fun s i wr => ∃ (j : Nat) (v : Option Addr) (cap : Nat), j ≤ 8 ∧ i = .int .i64 j ∧ s = .slice v j cap ∧ Grow .i64 3 wr w.heap.size v j cap ((List.range j).map (sg K)) ∧ Below w.heap.size w wr) (fun _ i _ => 8 - (intOf i).toNat)
    case atStart => exact ⟨0, _, _, Nat.zero_le _, rfl, rfl, Grow.lit0 _ _ _ _ (Nat.le_refl _), HB0.out⟩
    case round =>
      obtain ⟨j, v, cap, hj, rfl, rfl, hgr, hbel⟩ := hrel
      have HG := Lib.hid hgr
      have HB := Lib.hid hbel
      have hsz : w.heap.size ≤ wr.heap.size := hbel.size
      clear hgr hbel
      by_cases hlt : j < 8
      · have HSj := Lib.hid (HS.out j hlt)
        have HNj := Lib.hid (HN.out j)
        generalize sg K j = x at *
        generalize (List.range j).map (sg K) = xs at *
        go_wp2_with (first
          | (go_at_call 40; ((with_reducible refine (H1.out _).mono ?_); rintro e w1 ⟨rfl, rfl⟩))
          | (go_at_call 41; ((with_reducible refine (HSj.out _).mono ?_); rintro e w1 ⟨rfl, rfl⟩))
          | (at_builtin; refine wpList_append1 (.tmp 14) (.tmp 18) w.heap.size v j cap xs ⟨wr.heap.size, 0, none⟩ x rfl rfl rfl rfl (HG.out.alloc _) (by simp) (by omega) (by simp; omega) ?_; intro a3 cap3 w3 hg3 hb3; have HG3 := Lib.hid hg3; have HB3 := Lib.hid ((HB.out.alloc hsz _).trans hb3); clear hg3 hb3))
        go_roundw
        case rel => exact ⟨j + 1, a3, cap3, by omega, by go_num, rfl, by rw [HNj.out]; exact HG3.out, HB3.out⟩
        case measure => simp [intOf]; omega
      · obtain rfl : j = 8 := by omega
        go_wp2
        go_ret
        rw [HE.out, HD.out]
        exact listPostC_grow HG.out HB.out
end Go.Proofs.Ytnnknfpkbhcghaa
