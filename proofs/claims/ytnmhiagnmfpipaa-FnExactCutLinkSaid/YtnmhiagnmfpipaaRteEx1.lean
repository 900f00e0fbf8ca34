/-
  Marks in tables of a call's own, and what is held of them. Conditions: at most 2^20 numbers in all.
-/
import Derived.Test.YtnmhiagnmfpipaaRteExact
import Derived.Test.YtnmhiagnmfpipaaRte10
import Derived.Test.YtnmhiagnmfpipaaMarks
namespace Go.Proofs.Ytnmhiagnmfpipaa
open Go.RowKit

/-- A table in blocks of its own, from b1 on and before C. -/
def OwnT (w : World) (b1 C : Nat) (a : Option Addr) (X : List (List Int)) : Prop :=
  X ≠ [] → ∃ b0 blk cp, a = some ⟨b0, 0, none⟩ ∧ b1 ≤ b0 ∧ b0 < C ∧ CgR w b0 X X.length blk cp ∧ ∀ i, i < X.length → blk i < C
section
variable {w w' : World} {b1 C D E : Nat} {a : Option Addr} {X : List (List Int)}
theorem OwnT.keep (h : OwnT w b1 C a X) (hk : KeptOut D E w w') (hd : C ≤ D ∨ E ≤ b1) : OwnT w' b1 C a X := fun hne => by
  obtain ⟨b0, blk, cp, e, h1, h2, h3, h4⟩ := h hne
  refine ⟨b0, blk, cp, e, h1, h2, ⟨h3.row.of_block (hk.block _ h3.row.lt (by omega)), fun i hi => ?_, h3.inc⟩, h4⟩
  obtain ⟨k1, k2, f, hf, hv⟩ := h3.at_ i hi
  have h5 := h4 i hi
  exact ⟨k1, k2, f, hf.of_block (hk.block _ hf.lt (by omega)), hv⟩
theorem OwnT.next (h : OwnT w b1 C a X) (hb : Below w.heap.size w w') : OwnT w' b1 C a X := h.keep (KeptOut.of_below (B := C) (C := C) hb) (.inl (Nat.le_refl _))
theorem OwnT.drewN (h : OwnT w b1 C a X) (n : Nat) : OwnT (w.drewN n) b1 C a X := h.next (below_drewN (Below.refl _ _) n)
theorem OwnT.rows (h : OwnT w b1 C a X) : RowsL w C a X := fun hne => by
  obtain ⟨b0, blk, cp, rfl, h1, h2, h3, h4⟩ := h hne
  refine ⟨b0, 0, rfl, h2, fun i hi => ?_⟩
  have h5 := h3.row.cell hi
  rw [if_pos hi] at h5
  rw [Nat.zero_add]
  obtain ⟨_, k2, f, hf, hv⟩ := h3.at_ i hi
  exact ⟨_, _, h5, k2.1, k2.2, fun _ => ⟨blk i, 0, rfl, h4 i hi, fun j hj => by rw [Nat.zero_add, hf.cell (by omega), hv j hj]⟩⟩
theorem ownT_of (h : X ≠ [] → ∃ b0 blk cp, a = some ⟨b0, 0, none⟩ ∧ b1 ≤ b0 ∧ CgR w b0 X X.length blk cp) : OwnT w b1 w.heap.size a X := fun hne => by
  obtain ⟨b0, blk, cp, e, h1, h2⟩ := h hne
  exact ⟨b0, blk, cp, e, h1, h2.row.lt, h2, fun i hi => h2.lt hi⟩
theorem CpR.ownT {b0 : Nat} {blk : Nat → Nat} (h : CpR w b0 X X.length blk) (hz : SzOk X) : OwnT w b0 w.heap.size (some ⟨b0, 0, none⟩) X := fun _ =>
  ⟨b0, blk, _, rfl, Nat.le_refl _, h.row.lt, h.cgR (fun i hi => Nat.le_trans (hz.row hi) (by unfold maxLen; omega)), fun i hi => (h.at_ i hi).2.lt⟩
end
/-- The marks of a table. -/
def mkT (X : List (List Int)) : List (List Int) := (List.range X.length).map fun i => marks (1 + tot X i) (rwI X i).length
theorem mkT_len (X : List (List Int)) : (mkT X).length = X.length := by simp [mkT]
theorem mkT_row {X : List (List Int)} {i : Nat} (h : i < X.length) : rwI (mkT X) i = marks (1 + tot X i) (rwI X i).length := by
  simp [mkT, rwI, h]
theorem mkT_nil {X : List (List Int)} (h : X ≠ []) : mkT X ≠ [] := fun e => h (List.eq_nil_of_length_eq_zero (by rw [← mkT_len, e]; rfl))
/-- Some marks are laid. -/
structure MkK (w w' : World) (b0 : Nat) (X : List (List Int)) (blk cp : Nat → Nat) (k : Nat) : Prop where
  head : w'.heap[b0]? = w.heap[b0]?
  done : ∀ i, i < k → i < X.length → ∃ f, w'.rowIs (blk i) 3 (cp i) f ∧ ∀ j, j < (rwI X i).length → f j = .int .i64 (((1 + tot X i) + j : Nat) : Int)
  rest : ∀ i, k ≤ i → i < X.length → w'.heap[blk i]? = w.heap[blk i]?
theorem MkK.out {w w' : World} {b0 : Nat} {X : List (List Int)} {blk cp : Nat → Nat} (h : CgR w b0 X X.length blk cp) (hm : MkK w w' b0 X blk cp X.length) : CgR w' b0 (mkT X) (mkT X).length blk cp := by
  rw [mkT_len]
  refine ⟨?_, fun i hi => ?_, h.inc⟩
  · rw [mkT_len]
    refine (h.row.of_block hm.head).congr fun i hi => ?_
    rw [if_pos hi, if_pos hi, mkT_row hi, marks_length]
  · obtain ⟨h1, h2, _⟩ := h.at_ i hi
    obtain ⟨f, hf, hv⟩ := hm.done i hi hi
    rw [mkT_row hi, marks_length]
    exact ⟨h1, h2, f, hf, fun j hj => by rw [hv j hj, marks_el _ _ _ hj]⟩
set_option maxRecDepth 10000 in
set_option maxHeartbeats 2000000 in
theorem markT_any (a : Option Addr) (c b1 C : Nat) (X : List (List Int)) (w : World) (h : OwnT w b1 C a X) (hz : SzOk X) :
    Calls Try.prog 38 #[.slice a X.length c, .int .i64 1] w fun e w' => e = .returned (.int .i64 ((1 + tot X X.length : Nat) : Int)) ∧ OwnT w' b1 C a (mkT X) ∧ KeptOut b1 C w w' := by
  have hl : X.length ≤ 1048576 := hz.len
  by_cases hne : X = []
  · subst hne
    go_enter Try.func38, Try.ntmps38
    go_wp2
    go_loopw [1, 5] (fun s i wr => i = .int .i64 0 ∧ s = .int .i64 1 ∧ wr = w) (fun _ _ _ => 0)
    case atStart => exact ⟨rfl, rfl, rfl⟩
    case round =>
      obtain ⟨rfl, rfl, rfl⟩ := hrel
      go_wp2
      go_ret
      exact ⟨rfl, fun h0 => absurd rfl h0, KeptOut.refl _ _ _⟩
  · obtain ⟨b0, blk, cp, rfl, h1, h2, h3, h4⟩ := h hne
    have HC := Lib.hid h3
    have HK := Lib.hid h4
    have HZ := Lib.hid hz
    have HB := Lib.hid (And.intro h1 h2)
    clear h h1 h2 h3 h4 hz hne
    go_enter Try.func38, Try.ntmps38
    go_wp2
    go_loopw [1, 5] (fun s i wr => ∃ k : Nat, k ≤ X.length ∧ i = .int .i64 k ∧ s = .int .i64 ((1 + tot X k : Nat) : Int) ∧ KeptOut b1 C w wr ∧ MkK w wr b0 X blk cp k) (fun _ i _ => X.length - (intOf i).toNat)
    case atStart => exact ⟨0, Nat.zero_le _, rfl, rfl, KeptOut.refl _ _ _, rfl, fun _ hi => absurd hi (Nat.not_lt_zero _), fun _ _ _ => rfl⟩
    case round =>
      obtain ⟨k, hk, rfl, rfl, hko, hmk⟩ := hrel
      have HKo := Lib.hid hko
      have HM0 := Lib.hid hmk
      clear hko hmk
      have htot : tot X k ≤ tot X X.length := tot_le hk
      have hzz := HZ.out
      unfold SzOk at hzz
      by_cases hlt : k < X.length
      · have hrow := (HC.out.row.of_block HM0.out.head).cell hlt
        rw [if_pos hlt] at hrow
        obtain ⟨hlb, hcp, fk, hr0, _⟩ := HC.out.at_ k hlt
        have hm := markIntS_row (blk k) (cp k) (cp k) (rwI X k).length (1 + tot X k) fk wr (hr0.of_block (HM0.out.rest k (Nat.le_refl _) hlt)) hcp.1 (HZ.out.row hlt) (by omega)
        have HM := Lib.hid hm
        have HT := Lib.hid (show 1 + tot X k + (rwI X k).length = 1 + tot X (k + 1) by show _ = 1 + (tot X k + (rwI X k).length); omega)
        have Hlb := Lib.hid hlb
        have htot2 : tot X (k + 1) ≤ tot X X.length := tot_le hlt
        have HLT := Lib.hid hlt
        clear hm hr0 hlb hcp
        go_wp2_with fail
        refine HM.out.mono ?_
        rintro e w1 ⟨rfl, hr1, hg⟩
        rw [HT.out]
        have K2 := Lib.hid (HKo.out.mark hg (Nat.le_trans HB.out.1 (Nat.le_of_lt Hlb.out)) (HK.out k HLT.out))
        have h3 := HKo.out.size
        have M2 : Hid (MkK w w1 b0 X blk cp (k + 1)) := by
          refine ⟨?_, fun i hi hil => ?_, fun j hj hjl => ?_⟩
          · have h2 := HC.out.row.lt
            have h4 := Hlb.out
            exact (hg.block _ (by omega) (fun e => by injection e; omega)).trans HM0.out.head
          · by_cases e : i = k
            · subst e
              exact ⟨_, hr1, fun j hj => by simp [hj]⟩
            · obtain ⟨f, hf, hv⟩ := HM0.out.done i (by omega) hil
              have hne := HC.out.inc i k (by omega) HLT.out
              exact ⟨f, hf.of_block (hg.block _ hf.lt (fun e => by injection e; omega)), hv⟩
          · have hne := HC.out.inc k j hj hjl
            have h1 := HM0.out.rest j (by omega) hjl
            have h2 := HC.out.lt hjl
            exact (hg.block _ (by omega) (fun e => by injection e; omega)).trans h1
        clear hg hr1
        go_wp2
        go_roundw
        case rel => exact ⟨k + 1, HLT.out, by go_num, rfl, K2.out, M2.out⟩
        case measure => have := HLT.out; simp [intOf]; omega
      · obtain rfl : X.length = k := by omega
        go_wp2
        go_ret
        exact ⟨rfl, fun _ => ⟨b0, blk, cp, rfl, HB.out.1, HB.out.2, MkK.out HC.out HM0.out, fun i hi => HK.out i (by rw [mkT_len] at hi; exact hi)⟩, HKo.out⟩
set_option maxRecDepth 10000 in
set_option maxHeartbeats 2000000 in
theorem heldT_any (a : Option Addr) (c B : Nat) (X : List (List Int)) (w : World) (h : RowsL w B a (mkT X)) (hz : SzOk X) :
    Calls Try.prog 41 #[.slice a X.length c, .int .i64 1] w fun e w' => e = .returned (.int .i64 ((1 + tot X X.length : Nat) : Int)) ∧ w = w' := by
  have hl : X.length ≤ 1048576 := hz.len
  have HR := Lib.hid h
  have HZ := Lib.hid hz
  clear h hz
  go_enter Try.func41, Try.ntmps41
  go_wp2
  go_loop [1, 5] (fun s i => ∃ k : Nat, k ≤ X.length ∧ i = .int .i64 k ∧ s = .int .i64 ((1 + tot X k : Nat) : Int)) (fun _ i => X.length - (intOf i).toNat)
  case atStart => exact ⟨0, Nat.zero_le _, rfl, rfl⟩
  case round =>
    obtain ⟨k, hk, rfl, rfl⟩ := hrel
    have htot : tot X k ≤ tot X X.length := tot_le hk
    have hzz := HZ.out
    unfold SzOk at hzz
    obtain ⟨T, hT⟩ : ∃ T, T = 1 + tot X k := ⟨_, rfl⟩
    rw [← hT]
    by_cases hlt : k < X.length
    · obtain ⟨b, off, ad, cp, rfl, hrow, _, _, hin⟩ := HR.out.at_ (i := k) (by rw [mkT_len]; exact hlt)
      rw [mkT_row hlt] at hrow hin
      rw [marks_length] at hrow
      have HH := Lib.hid (heldIntS_any ad B cp (rwI X k).length (1 + tot X k) w hin (HZ.out.row hlt) (by omega))
      have HT := Lib.hid (show 1 + tot X k + (rwI X k).length = 1 + tot X (k + 1) by show _ = 1 + (tot X k + (rwI X k).length); omega)
      rw [HT.out, ← hT] at HH
      obtain ⟨T2, hT2⟩ : ∃ T2, T2 = 1 + tot X (k + 1) := ⟨_, rfl⟩
      rw [← hT2] at HH
      have htot2 : tot X (k + 1) ≤ tot X X.length := tot_le hlt
      have hnn : ¬ (T2 : Int) < 0 := by omega
      have HT2 := Lib.hid hT2
      clear hin HT hT hT2
      go_wp2_with (go_at_call 40; ((with_reducible refine HH.out.mono ?_); rintro e w1 ⟨rfl, rfl⟩))
      go_round
      case rel => exact ⟨k + 1, by omega, by go_num, by rw [HT2.out]⟩
      case measure => simp [intOf]; omega
    · obtain rfl : X.length = k := by omega
      go_wp2
      go_ret
      exact ⟨rfl, rfl⟩
theorem tot_bound {X : List (List Int)} {m : Nat} (h : ∀ i, i < X.length → (rwI X i).length ≤ m) : ∀ k, k ≤ X.length → tot X k ≤ k * m
  | 0, _ => Nat.zero_le _
  | k + 1, hk => by
    have ih := tot_bound h k (by omega)
    have h1 := h k (by omega)
    show tot X k + (rwI X k).length ≤ _
    rw [Nat.succ_mul]
    omega
theorem ctOr_small (R : List (List Int)) (f t : Int) : SzOk (ctOr R f t) := by
  by_cases h : EndsOk R f t
  · obtain ⟨i, to, rfl, rfl, hi, hto, hok⟩ := endsOk_cases h
    rw [ctOr_yes hok hi hto]
    have h1 := tot_bound (X := ctL R i to) (m := R.length) (fun k hk => by
      rw [ctL_len] at hk
      rw [ctL_row hk]
      have := tiOk_row hok hk
      split
      · simp [this]
      · omega) (ctL R i to).length (Nat.le_refl _)
    unfold SzOk
    rw [ctL_len] at h1 ⊢
    have h2 := hok.1
    have h3 : R.length * R.length ≤ 10 * 10 := Nat.mul_le_mul h2 h2
    omega
  · rw [ctOr_no h]
    exact Nat.zero_le _
end Go.Proofs.Ytnmhiagnmfpipaa
