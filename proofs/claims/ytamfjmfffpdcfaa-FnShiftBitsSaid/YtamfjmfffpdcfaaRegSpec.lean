/-
  What the models of ShiftBits and ShiftPeriod answer, and what ScrambleBits and its model answer. Condition: a list that can be read.
-/
import Derived.Test.YtamfjmfffpdcfaaRegPer
namespace Go.Proofs.Ytamfjmfffpdcfaa
open Go.RowKit

set_option maxHeartbeats 1000000 in
theorem specShiftBits_any (t s n : Int) (w : World) : Calls Try.prog 16 #[.int .i64 t, .int .i64 s, .int .i64 n] w (ListPostC (outsOr t s n) w) := by
  have hrv := fun W => l3Ok_any t s W
  cases hok : regOk t s
  · rw [hok] at hrv
    have HC := Lib.hid hrv
    have HE := Lib.hid (show outsOr t s n = [] by simp [outsOr, shOk, hok])
    clear hrv hok
    go_enter Try.func16, Try.ntmps16
    go_wp2_with (go_at_call 40; refine (HC.out _).mono ?_; rintro e w' ⟨rfl, rfl⟩)
    go_ret
    rw [HE.out]
    exact listPostC_grow (Grow.lit0 _ _ _ _ (Nat.le_refl _)) ((Below.refl _ _).alloc (Nat.le_refl _) _)
  · rw [hok] at hrv
    have hin := fun W => l1In_any n 0 1024 W
    by_cases h0 : 0 ≤ n ∧ n ≤ 1024
    · rw [show (decide ((0 : Int) ≤ n) && decide (n ≤ 1024)) = true by simp [h0]] at hin
      obtain ⟨T, S, rfl, rfl, hT, hS1, hS, hT2, hS2⟩ := regOk_nat hok
      obtain ⟨N, rfl⟩ := Int.eq_ofNat_of_zero_le h0.1
      have HE := Lib.hid (show outsOr (T : Int) (S : Int) (N : Int) = outs T S N by simp [outsOr, shOk, hok, h0])
      have hN : N ≤ 1024 := by omega
      have HC := Lib.hid hrv
      have HI := Lib.hid hin
      have HB := Lib.hid (fun k => st_in hT hS hS1 k)
      have HP := Lib.hid (pow_degR (regOk_parts hok).1)
      clear hrv hok hin h0 hT hS hS1
      go_enter Try.func16, Try.ntmps16
      go_wp2_with (first | (go_at_call 40; refine (HC.out _).mono ?_; rintro e w' ⟨rfl, rfl⟩) | (go_at_call 41; refine (HI.out _).mono ?_; rintro e w' ⟨rfl, rfl⟩))
      go_loopw [1, 7, 8] (fun q s i wr => ∃ (k : Nat) (v : Option Addr) (cap : Nat), k ≤ N ∧ i = .int .i64 k ∧ q = .int .i64 (st T S k : Int) ∧ s = .slice v k cap ∧ Grow .i64 3 wr w.heap.size v k cap (outs T S k) ∧ Below w.heap.size w wr) (fun _ _ i _ => N - (intOf i).toNat)
      case atStart => exact ⟨0, _, _, Nat.zero_le _, rfl, rfl, rfl, Grow.lit0 _ _ _ _ (Nat.le_refl _), (Below.refl _ _).alloc (Nat.le_refl _) _⟩
      case round =>
        obtain ⟨k, v, cap, hk, rfl, rfl, rfl, hgr, hbel⟩ := hrel
        have HG := Lib.hid hgr
        have HBe := Lib.hid hbel
        have hsz : w.heap.size ≤ wr.heap.size := hbel.size
        clear hgr hbel
        by_cases hlt : k < N
        · have hb1 := (HB.out k).2
          have hb2 := HP.out
          have HN := Lib.hid (fun W => l3Next_any T (st T S k) W (by omega) (by omega))
          clear hb1 hb2
          go_wp2_with (first | (go_at_call 42; refine (HN.out _).mono ?_; rintro e w' ⟨rfl, rfl⟩) | (at_builtin; refine wpList_append1 (.tmp 34) (.tmp 36) w.heap.size v k cap (outs T S k) ⟨wr.heap.size, 0, none⟩ ((st T S k % 2 : Nat) : Int) rfl rfl rfl rfl (HG.out.alloc _) (by simp) (by omega) (by simp; omega) ?_; intro a2 cap2 w2 hg2 hb2; have HG2 := Lib.hid hg2; have HB2 := Lib.hid hb2; clear hg2 hb2))
          go_roundw
          case rel => exact ⟨k + 1, a2, cap2, by omega, by go_num, rfl, rfl, by rw [outs_succ]; exact HG2.out, (HBe.out.alloc hsz _).trans HB2.out⟩
          case measure => simp [intOf]; omega
        · obtain rfl : N = k := by omega
          go_wp2
          go_ret
          rw [HE.out]
          exact listPostC_grow HG.out HBe.out
    · rw [show (decide ((0 : Int) ≤ n) && decide (n ≤ 1024)) = false by rw [Bool.eq_false_iff]; simp; omega] at hin
      have HC := Lib.hid hrv
      have HI := Lib.hid hin
      have HE := Lib.hid (show outsOr t s n = [] by
        have : shOk t s n = false := by rw [Bool.eq_false_iff]; intro h; exact h0 (shOk_parts h).2
        simp [outsOr, this])
      clear hrv hok hin h0
      go_enter Try.func16, Try.ntmps16
      go_wp2_with (first | (go_at_call 40; refine (HC.out _).mono ?_; rintro e w' ⟨rfl, rfl⟩) | (go_at_call 41; refine (HI.out _).mono ?_; rintro e w' ⟨rfl, rfl⟩))
      go_ret
      rw [HE.out]
      exact listPostC_grow (Grow.lit0 _ _ _ _ (Nat.le_refl _)) ((Below.refl _ _).alloc (Nat.le_refl _) _)

set_option maxHeartbeats 1000000 in
theorem specShiftPeriod_any (t s : Int) (n : Nat) (h : PerOr t s n) (w : World) : Calls Try.prog 21 #[.int .i64 t, .int .i64 s] w fun e w' => e = .returned (.int .i64 (n : Int)) ∧ w = w' := by
  have hrv := fun W => l3Ok_any t s W
  rcases h with ⟨hok, hp, hn⟩ | ⟨hok, rfl⟩
  · rw [hok] at hrv
    obtain ⟨T, S, rfl, rfl, hT, hS1, hS, hT2, hS2⟩ := regOk_nat hok
    rw [Int.toNat_natCast, Int.toNat_natCast] at hp
    have HC := Lib.hid hrv
    have HB := Lib.hid (fun k => st_in hT hS hS1 k)
    have HPw := Lib.hid (pow_degR (regOk_parts hok).1)
    have hn2 : n ≤ 65536 := by have := pow_degR (regOk_parts hok).1; omega
    have hn1 := hp.pos
    have HP := Lib.hid hp
    clear hrv hok hT hS hS1 hp hn
    go_enter Try.func21, Try.ntmps21
    go_wp2_with (go_at_call 40; refine (HC.out _).mono ?_; rintro e w' ⟨rfl, rfl⟩)
    go_loop [5, 6] (fun q i => ∃ k : Nat, k + 1 ≤ n ∧ i = .int .i64 ((k + 1 : Nat) : Int) ∧ q = .int .i64 (st T S k : Int)) (fun _ i => n - (intOf i).toNat)
    case atStart => exact ⟨0, hn1, rfl, rfl⟩
    case round =>
      obtain ⟨k, hk, rfl, rfl⟩ := hrel
      have hb1 := (HB.out k).2
      have hb2 := HPw.out
      have HN := Lib.hid (fun W => l3Next_any T (st T S k) W (by omega) (by omega))
      clear hb1 hb2
      by_cases he : k + 1 = n
      · have hz : ((nxt T (st T S k) : Int) == (S : Int)) = true := by
          have hb := HP.out.back
          rw [← he] at hb
          simp only [st] at hb
          rw [hb]; simp
        subst he
        go_wp2_with (go_at_call 42; refine (HN.out _).mono ?_; rintro e w' ⟨rfl, rfl⟩)
        go_ret
        exact ⟨rfl, rfl⟩
      · have hz : ((nxt T (st T S k) : Int) == (S : Int)) = false := by
          have hf := HP.out.first (k + 1) (by omega) (by omega)
          simp only [st] at hf
          rw [Bool.eq_false_iff]
          intro hc
          exact hf (Int.ofNat_inj.1 (eq_of_beq hc))
        go_wp2_with (go_at_call 42; refine (HN.out _).mono ?_; rintro e w' ⟨rfl, rfl⟩)
        go_round
        case rel => exact ⟨k + 1, by omega, by go_num, rfl⟩
        case measure => simp [intOf]; omega
  · rw [hok] at hrv
    have HC := Lib.hid hrv
    clear hrv hok
    go_enter Try.func21, Try.ntmps21
    go_wp2_with (go_at_call 40; refine (HC.out _).mono ?_; rintro e w' ⟨rfl, rfl⟩)
    go_ret
    exact ⟨rfl, rfl⟩
end Go.Proofs.Ytamfjmfffpdcfaa
