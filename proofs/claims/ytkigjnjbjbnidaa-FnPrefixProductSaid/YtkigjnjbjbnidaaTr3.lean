/-
  What the order of reversed digits, the butterflies and the transform with a root answer. Conditions: sixteen numbers 0 to 256; a root 0 to 256.
-/
import Derived.Test.YtkigjnjbjbnidaaTrMath4
import Derived.Test.YtkigjnjbjbnidaaTr2
import Derived.Lib.Tables
import Derived.BigQuiet
namespace Go.Proofs.Ytkigjnjbjbnidaa
open Go.RowKit

theorem rev8_rv : ∀ k : Nat, k < 16 → Lib.rev8 (k : Int) = 16 * (rv k : Int) := by decide +kernel
set_option maxHeartbeats 400000 in
theorem reverse8_any (k : Nat) (w : World) (hk : k < 16) : Calls Try.prog 54 #[.int .u8 k] w fun e w' => e = .returned (.int .u8 (16 * (rv k : Int))) ∧ w = w' := by
  have h1 : (k : Int) ≤ 255 := by omega
  have HE := Lib.hid (rev8_rv k hk)
  go_enter Try.func54, Try.ntmps54
  go_wp2
  go_ret
  exact ⟨ret_int (by rw [HE.out]), rfl⟩
/-- The three blocks of the call. -/
def RvW (w wr : World) (xs ys : List Int) : Prop := A16 wr w.heap.size xs ∧ A16 wr (w.heap.size + 1) z16 ∧ A16 wr (w.heap.size + 1 + 1) ys ∧ Below w.heap.size w wr
theorem RvW.new (w : World) (xs : List Int) (h : xs.length = 16) : RvW w (((w.alloc (.cells (rw16 xs) 40)).alloc (.cells (rw16 z16) 40)).alloc (.cells (rw16 z16) 40)) xs z16 :=
  ⟨⟨heap_prev3 _ _ _ _, h⟩, ⟨heap_mid3 _ _ _ _, z16_len⟩, ⟨heap_last3 _ _ _ _, z16_len⟩, (((Below.refl _ _).alloc (Nat.le_refl _) _).alloc (by simp) _).alloc (by simp; omega) _⟩
theorem RvW.set {w wr : World} {xs ys : List Int} (h : RvW w wr xs ys) (k : Nat) (v : Int) : RvW w (wr.setCell ⟨w.heap.size + 1 + 1, k, none⟩ (.int .i64 v)) xs (ys.set k v) :=
  ⟨h.1.other k (by omega), h.2.1.other k (by omega), h.2.2.1.set k v, h.2.2.2.setCell (by show w.heap.size ≤ w.heap.size + 1 + 1; omega) _⟩
set_option maxHeartbeats 1000000 in
theorem reversed_any (xs : List Int) (w : World) (hl : xs.length = 16) :
    Calls Try.prog 50 #[.agg (rw16 xs)] w fun e w' => e = .returned (.agg (rw16 (rvX xs 16))) ∧ Below w.heap.size w w' := by
  have HN := Lib.hid (RvW.new w xs hl)
  have HI := Lib.hid (fun k W (hk : k < 16) => index16 xs k W hl hk)
  clear hl
  rw [← z16_row] at HN
  go_enter Try.func50, Try.ntmps50
  go_wp2_with (refine load16 (.tmp 1) w.heap.size xs HN.out.1 rfl rfl rfl ?_)
  go_loopw [7] (fun i wr => ∃ k : Nat, k ≤ 16 ∧ i = .int .i64 k ∧ RvW w wr xs (rvX xs k)) (fun i _ => 16 - (intOf i).toNat)
  case atStart => exact ⟨0, Nat.zero_le _, rfl, HN.out⟩
  case round =>
    obtain ⟨k, hk, rfl, hrel⟩ := hrel
    have HR := Lib.hid hrel
    clear hrel
    by_cases hlt : k < 16
    · have hi := fun W => HI.out k W hlt
      have f0 := HR.out.2.2.1.frozen (rv k)
      have c0 := HR.out.2.2.1.cell (rv_lt k hlt)
      have hr := rv_lt k hlt
      have HS : Hid (RvW w (wr.setCell ⟨w.heap.size + 1 + 1, rv k, none⟩ (.int .i64 (el xs k))) xs (rvX xs (k + 1))) := HR.out.set (rv k) (el xs k)
      have HV := Lib.hid (fun W => reverse8_any k W hlt)
      generalize rv k = r at *
      have r1 : IntKind.u8.wrap (k : Int) = (k : Int) := by rw [IntKind.wrap_u8]; omega
      have r2 : (16 * (r : Int)) / 16 = (r : Int) := by omega
      go_wp2_with (go_at_call 54; refine (HV.out _).mono ?_; rintro e w1 ⟨rfl, rfl⟩)
      go_roundw
      case rel => exact ⟨k + 1, by omega, by go_num, HS.out⟩
      case measure => simp [intOf]; omega
    · obtain rfl : k = 16 := by omega
      go_wp2_with (first | (refine load16 (.tmp 3) (w.heap.size + 1 + 1) (rvX xs 16) HR.out.2.2.1 rfl rfl rfl ?_) | (refine store16 (.tmp 2) (.tmp 18) (w.heap.size + 1) z16 (rvX xs 16) HR.out.2.1 (rvX_len _ _) rfl rfl rfl rfl ?_; intro W1 hW1; have P1 := Lib.hid (put16 HR.out.2.1 hW1 (rvX_len _ _)); have B1 := Lib.hid (below_put HR.out.2.2.2 hW1 (by omega)); clear hW1))
      refine bodyPost_ret (results16 rfl _ _ (w.heap.size + 1) _ rfl P1.out) rfl ?_
      exact ⟨rfl, B1.out⟩

/-- The numbers of one butterfly, as a walk wants them. -/
theorem bf_nums {ys : List Int} (h : RIn ys) (i j : Nat) {f : Int} (hf : 0 ≤ f ∧ f < 257) : ∃ p q u s a b : Int, p = el ys i ∧ q = el ys j ∧ u = q * f ∧ s = u % 257 ∧ a = bfA ys i j f ∧ b = bfB ys i j f ∧
    (IntKind.i64.wrap u = u ∧ wrap64 u = u ∧ u.tmod 257 = s) ∧ (0 ≤ p ∧ p < 257) ∧ (0 ≤ s ∧ s < 257) ∧ (p + s).tmod 257 = a ∧ (p - s + 257).tmod 257 = b := by
  have h1 := h i
  have h2 := h j
  have h3 := mm_in h2 hf
  have h4 : 0 ≤ (el ys j * f) % 257 ∧ (el ys j * f) % 257 < 257 := ⟨Int.emod_nonneg _ (by decide), Int.emod_lt_of_pos _ (by decide)⟩
  exact ⟨_, _, _, _, _, _, rfl, rfl, rfl, rfl, rfl, rfl, ⟨wrapT (by omega), wrapT' (by omega), tmodT h3.1⟩, h1, h4, tmodT (by omega), tmodT (by omega)⟩
set_option maxHeartbeats 2000000 in
theorem butterflies_any (b s h : Nat) (t : Int) (ys : List Int) (w : World) (hb : A16 w b ys) (hin : RIn ys) (ht : 0 ≤ t ∧ t < 257) (hs : s + 2 * h ≤ 16) :
    Calls Try.prog 51 #[.pointer (some ⟨b, 0, none⟩), .int .i64 s, .int .i64 h, .int .i64 t] w fun e w' => e = .returned (.tuple #[]) ∧ A16 w' b (bfS ys s h t h) ∧ Below b w w' := by
  have HA := Lib.hid hb
  have HIn := Lib.hid (fun n => bfS_in hin s h t n)
  have HT := Lib.hid ht
  have hs1 : s ≤ 16 := by omega
  have hh1 : h ≤ 8 := by omega
  clear hb hin ht
  go_enter Try.func51, Try.ntmps51
  go_wp2
  go_loopw [8, 9] (fun f p wr => ∃ k : Nat, k ≤ h ∧ f = .int .i64 (pwF t k) ∧ p = .int .i64 ((s + k : Nat) : Int) ∧ A16 wr b (bfS ys s h t k) ∧ Below b w wr) (fun _ p _ => s + h - (intOf p).toNat)
  case atStart => exact ⟨0, Nat.zero_le _, rfl, rfl, HA.out, Below.refl _ _⟩
  case round =>
    obtain ⟨k, hk, rfl, rfl, hrow, hbel⟩ := hrel
    have HR := Lib.hid hrow
    have HB := Lib.hid hbel
    clear hrow hbel
    obtain ⟨P, hP⟩ : ∃ P, P = s + k := ⟨_, rfl⟩
    obtain ⟨Q, hQ⟩ : ∃ Q, Q = P + h := ⟨_, rfl⟩
    rw [← hP]
    by_cases hlt : k < h
    · have hP16 : P < 16 := by omega
      have hQ16 : Q < 16 := by omega
      have hPs : P < s + h := by omega
      have HF := Lib.hid (mm_nums (pwF_in t k) HT.out)
      have HFN := Lib.hid (show pwF t (k + 1) = pwF t k * t % 257 from rfl)
      have HS := Lib.hid (show bfS ys s h t (k + 1) = ((bfS ys s h t k).set P (bfA (bfS ys s h t k) P Q (pwF t k))).set Q (bfB (bfS ys s h t k) P Q (pwF t k)) by rw [hQ, hP]; rfl)
      have HNum := Lib.hid (bf_nums (HIn.out k) P Q (pwF_in t k))
      have HP := Lib.hid hP
      have HQ := Lib.hid hQ
      have q1 : (P : Int) + (h : Int) = (Q : Int) := by omega
      generalize bfS ys s h t k = zs at *
      generalize pwF t k = f at *
      obtain ⟨p, q, u, m, A, B, hp, hq, hu, hm, hA, hB, ⟨r1, r1', r2⟩, hpi, hmi, r3, r4⟩ := HNum.out
      have c0 := HR.out.cell hP16
      have c1 := HR.out.cell hQ16
      rw [← hp] at c0
      rw [← hq] at c1
      have c0' := fun n : Nat => (show A16 (wr.drewN n) b zs from HR.out).cell hP16
      have c1' := fun n : Nat => (show A16 (wr.drewN n) b zs from HR.out).cell hQ16
      rw [← hp] at c0'
      rw [← hq] at c1'
      have f0 := fun n : Nat => (show A16 (wr.drewN n) b zs from HR.out).frozen P
      have HR2 := Lib.hid (fun n : Nat => (show A16 (wr.drewN n) b zs from HR.out).set P A)
      have f1 := fun n : Nat => (HR2.out n).frozen Q
      have HR3 : Hid (∀ n : Nat, A16 (((wr.drewN n).setCell ⟨b, P, none⟩ (.int .i64 A)).setCell ⟨b, Q, none⟩ (.int .i64 B)) b (bfS ys s h t (k + 1))) := fun n => by
        have := (HR2.out n).set Q B
        rw [HS.out, ← hA, ← hB]
        exact this
      have c2 := fun n : Nat => (HR2.out n).cell hQ16
      have HB3 := Lib.hid (fun n : Nat => ((below_drewN HB.out n).setCell (p := ⟨b, P, none⟩) (Nat.le_refl _) (.int .i64 A)).setCell (p := ⟨b, Q, none⟩) (Nat.le_refl _) (.int .i64 B))
      obtain ⟨u2, v2, hu2, k1, k1', k2, hv2, _⟩ := HF.out
      rw [← hv2] at HFN
      rw [hu] at r1 r1' r2
      rw [hu2] at k1 k1' k2
      clear hP hQ hp hq hu hm hA hB hu2 hv2
      go_wp2
      go_quiet (fail)
      go_wp2
      go_roundw
      case rel => exact ⟨k + 1, by omega, by rw [HFN.out], by rw [HP.out]; go_num, HR3.out _, HB3.out _⟩
      case measure => simp [intOf]; omega
    · obtain rfl : k = h := by omega
      have hPs : ¬ ((P : Int) < (s : Int) + (k : Int)) := by omega
      clear hQ
      go_wp2
      go_end0
      exact ⟨rfl, HR.out, HB.out⟩
end Go.Proofs.Ytkigjnjbjbnidaa
