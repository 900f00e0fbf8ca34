/-
  What the model's transform with a root answers, and the models of ForwardTransform and BackwardTransform, for every list. Condition: the list can be read, its length can be.
-/
import Derived.Test.YtkigjnjbjbnidaaTr1
import Derived.Test.YtkigjnjbjbnidaaSliceFns
namespace Go.Proofs.Ytkigjnjbjbnidaa
open Go.RowKit

/-- The first k numbers of a list that is being made. -/
def prL (F : Nat → Int) (k : Nat) : List Int := (List.range k).map F
theorem prL_snoc (F : Nat → Int) (k : Nat) : prL F (k + 1) = prL F k ++ [F k] := l16_snoc F k
theorem prL_done (F : Nat → Int) : prL F 16 = l16 F := rfl
theorem prL_nil (F : Nat → Int) : prL F 0 = [] := rfl
/-- The transform with a root that is a power of 2. -/
def smF (c : Nat) (xs : List Int) (k : Nat) : Int := trS c (el xs) k % 257
def smT (c : Nat) (xs : List Int) (k j : Nat) : Int := el xs j * tw (c * (j * k))
theorem smF_done (c : Nat) (xs : List Int) (k : Nat) : sqS (smT c xs k) 16 % 257 = smF c xs k := rfl
theorem mod_in (n : Int) : 0 ≤ n % 257 ∧ n % 257 < 257 := ⟨Int.emod_nonneg _ (by decide), Int.emod_lt_of_pos _ (by decide)⟩
/-- One term of a sum, as a walk wants it. -/
theorem sum_nums {N A P : Int} (hN : 0 ≤ N ∧ N < 257) (hA : 0 ≤ A ∧ A < 257) (hP : 0 ≤ P ∧ P < 257) : ∃ v : Int, IntKind.i64.wrap (A * P) = A * P ∧ wrap64 (A * P) = A * P ∧ IntKind.i64.wrap (N + A * P) = N + A * P ∧ wrap64 (N + A * P) = N + A * P ∧ (N + A * P).tmod 257 = v ∧ v = (N + A * P) % 257 := by
  have h := mm_in hA hP
  exact ⟨_, wrapT (by omega), wrapT' (by omega), wrapT (by omega), wrapT' (by omega), tmodT (by omega), rfl⟩
/-- A new list that may be appended to. -/
def NewT (xs : List Int) (w : World) (e : Ending) (w' : World) : Prop :=
  ∃ a n cap, e = .returned (.slice a n cap) ∧ Grow .i64 3 w' w.heap.size a n cap xs ∧ Below w.heap.size w w'
theorem NewT.post {xs : List Int} {w w' : World} {e : Ending} (h : NewT xs w e w') : ListPostC xs w e w' := by
  obtain ⟨a, n, cap, rfl, h1, h2⟩ := h
  exact listPostC_grow h1 h2
set_option maxHeartbeats 2000000 in
theorem l11Sum_any (a : Option Addr) (c C : Nat) (xs : List Int) (w : World) (hx : Ints .i64 w w.heap.size a xs) (hok : ptOk xs = true) (r : Int) (hr : r = tw C) :
    Calls Try.prog 34 #[.slice a xs.length c, .int .i64 r] w (NewT (l16 (smF C xs)) w) := by
  have HX := Lib.hid hx
  have HI := Lib.hid (fun j => ptOk_in hok j)
  have HL := Lib.hid (ptOk_len hok)
  have HP := Lib.hid (fun (k : Nat) (hk : k < 16) W => l11Power_is (a := r) (m := (k : Int)) (n := k) (v := tw (C * k)) W (by rw [hr]; exact tw_in _) (by omega) rfl (by rw [hr]; exact pwF_tw C k))
  have HA := Lib.hid (fun o : Obj => (Below.refl w.heap.size w).alloc (Nat.le_refl _) o)
  clear hx hok hr
  go_enter Try.func34, Try.ntmps34
  go_wp2
  go_loopw [5, 6] (fun s i wr => ∃ (k : Nat) (v : Option Addr) (cap : Nat), k ≤ 16 ∧ i = .int .i64 k ∧ s = .slice v k cap ∧ Grow .i64 3 wr w.heap.size v k cap (prL (smF C xs) k) ∧ Below w.heap.size w wr) (fun _ i _ => 16 - (intOf i).toNat)
  case atStart => exact ⟨0, _, _, Nat.zero_le _, rfl, rfl, Grow.lit0 _ _ _ _ (Nat.le_refl _), HA.out _⟩
  case round =>
    obtain ⟨k, v, cap, hk, rfl, rfl, hgr, hbel⟩ := hrel
    have HG := Lib.hid hgr
    have HB := Lib.hid hbel
    have hsz : w.heap.size ≤ wr.heap.size := hbel.size
    clear hgr hbel
    by_cases hlt : k < 16
    · have HPk := Lib.hid (HP.out k hlt)
      have HW := Lib.hid (tw_in (C * k))
      have HWn := Lib.hid (fun j => show tw (C * (j * k)) * tw (C * k) % 257 = tw (C * ((j + 1) * k)) by rw [tw_next, ← Nat.mul_add, Nat.succ_mul])
      generalize tw (C * k) = W at *
      go_wp2_with (go_at_call 26; (with_reducible refine (HPk.out _).mono ?_); rintro e w1 ⟨rfl, rfl⟩)
      go_loop [7, 9, 10] (fun n p j => ∃ q : Nat, q ≤ 16 ∧ j = .int .i64 q ∧ n = .int .i64 (sqS (smT C xs k) q % 257) ∧ p = .int .i64 (tw (C * (q * k)))) (fun _ _ j => 16 - (intOf j).toNat)
      case atStart => exact ⟨0, Nat.zero_le _, rfl, rfl, by rw [Nat.zero_mul, Nat.mul_zero]; rfl⟩
      case round =>
        obtain ⟨q, hq, rfl, rfl, rfl⟩ := hrel
        by_cases hlq : q < 16
        · have hlq2 : q < xs.length := by rw [HL.out]; exact hlq
          obtain ⟨b, off, rfl, hb, hc⟩ := (HX.out.below HB.out).at_ hlq2
          have HS := Lib.hid (modS_next (smT C xs k) q)
          have HWq := Lib.hid (HWn.out q)
          have HPi := tw_in (C * (q * k))
          have HNi := mod_in (sqS (smT C xs k) q)
          have HAi := HI.out q
          rw [show smT C xs k q = el xs q * tw (C * (q * k)) from rfl] at HS
          generalize tw (C * (q * k)) = P at *
          generalize sqS (smT C xs k) q % 257 = N at *
          generalize el xs q = A at *
          obtain ⟨u, r1, r1', r2, r2', r3, hu⟩ := sum_nums HNi HAi HPi
          rw [← hu] at HS
          obtain ⟨u2, v2, hu2, s1, s1', s2, hv2, _⟩ := mm_nums HPi HW.out
          rw [← hv2] at HWq
          rw [hu2] at s1 s1' s2
          clear hu hu2 hv2 HAi HNi HPi hb
          go_wp2
          go_round
          case rel => exact ⟨q + 1, by omega, by go_num, by rw [HS.out], by rw [HWq.out]⟩
          case measure => simp [intOf]; omega
        · obtain rfl : q = 16 := by omega
          have HT := Lib.hid (show prL (smF C xs) (k + 1) = prL (smF C xs) k ++ [sqS (smT C xs k) 16 % 257] by rw [prL_snoc, smF_done])
          generalize sqS (smT C xs k) 16 % 257 = N at *
          go_wp2_with (at_builtin; refine wpList_append1 (.tmp 36) (.tmp 38) w.heap.size v k cap (prL (smF C xs) k) ⟨wr.heap.size, 0, none⟩ N rfl rfl rfl rfl (HG.out.alloc _) (by simp) (by omega) (by simp; omega) ?_; intro a3 cap3 w3 hg3 hb3; have HG3 := Lib.hid hg3; have HB3 := Lib.hid hb3; clear hg3 hb3)
          go_roundw
          case rel => exact ⟨k + 1, a3, cap3, by omega, by go_num, rfl, by rw [HT.out]; exact HG3.out, (HB.out.alloc hsz _).trans HB3.out⟩
          case measure => simp [intOf]; omega
    · obtain rfl : k = 16 := by omega
      go_wp2
      go_ret
      exact ⟨_, _, _, rfl, HG.out, HB.out⟩

set_option maxHeartbeats 1000000 in
theorem specForward_any (a : Option Addr) (c : Nat) (xs : List Int) (w : World) (hx : Ints .i64 w w.heap.size a xs) (hl : xs.length ≤ maxLen) :
    Calls Try.prog 17 #[.slice a xs.length c] w (ListPostC (ftOr xs) w) := by
  have HV := Lib.hid (fun W (hW : W = w) => l11Valid_any a c w.heap.size xs W (hW ▸ hx) hl)
  cases hok : ptOk xs
  · have HE := Lib.hid (ftOr_no hok)
    have HA := Lib.hid (fun o : Obj => (Below.refl w.heap.size w).alloc (Nat.le_refl _) o)
    rw [hok] at HV
    clear hok hx hl
    go_enter Try.func17, Try.ntmps17
    go_wp2_with (go_at_call 33; ((with_reducible refine (HV.out _ rfl).mono ?_); rintro e w' ⟨rfl, rfl⟩))
    go_ret
    rw [HE.out]
    exact listPostC_grow (Grow.lit0 _ _ _ _ (Nat.le_refl _)) (HA.out _)
  · have HE := Lib.hid (show l16 (smF 1 xs) = ftOr xs by rw [ftOr_yes hok]; rfl)
    have HS := Lib.hid (l11Sum_any a c 1 xs w hx hok 2 tw_one_is.symm)
    have HR := Lib.hid (specTransformRoot_any w)
    rw [hok] at HV
    rw [HE.out] at HS
    clear hok hx hl HE
    generalize ftOr xs = rs at *
    go_enter Try.func17, Try.ntmps17
    go_wp2_with (first | (go_at_call 33; ((with_reducible refine (HV.out _ rfl).mono ?_); rintro e w' ⟨rfl, rfl⟩)) | (go_at_call 12; ((with_reducible refine HR.out.mono ?_); rintro e w' ⟨rfl, rfl⟩)) | (go_at_call 34; ((with_reducible refine HS.out.mono ?_); rintro e w2 ⟨a2, n2, cap2, rfl, hg2, hb2⟩; have G2 := Lib.hid hg2; have B2 := Lib.hid hb2; clear hg2 hb2)))
    go_ret
    exact listPostC_grow G2.out B2.out
end Go.Proofs.Ytkigjnjbjbnidaa
