/-
  What asking whether a table of conflicts is valid answers, and the sets of conflicts; the model of the former. Condition: a table that can be read.
-/
import Derived.Test.YtnmhiagnmfpipaaSk1
namespace Go.Proofs.Ytnmhiagnmfpipaa
open Go.RowKit

/-- What makes a table valid. -/
def SqTo (R : List (List Bool)) (k : Nat) : Prop := ∀ i, i < k → (rwB R i).length = R.length
def MuRow (R : List (List Bool)) (i k : Nat) : Prop := ∀ j, j < k → cf R i j = cf R j i
def MuTo (R : List (List Bool)) (k : Nat) : Prop := ∀ i, i < k → cf R i i = false ∧ MuRow R i i
def TbOk (R : List (List Bool)) : Prop := R.length ≤ 10 ∧ SqTo R R.length ∧ MuTo R R.length
instance (R : List (List Bool)) : Decidable (TbOk R) := by unfold TbOk SqTo MuTo MuRow; exact inferInstance
def tbB (R : List (List Bool)) : Bool := decide (TbOk R)
theorem tbB_no {R : List (List Bool)} (h : ¬ TbOk R) : tbB R = false := decide_eq_false h
theorem tbB_yes {R : List (List Bool)} (h : TbOk R) : tbB R = true := decide_eq_true h
theorem tbB_ok {R : List (List Bool)} (h : tbB R = true) : TbOk R := of_decide_eq_true h
theorem sqTo_next {R : List (List Bool)} {k : Nat} (h : SqTo R k) (h1 : (rwB R k).length = R.length) : SqTo R (k + 1) := fun i hi => by
  by_cases e : i = k
  · subst e; exact h1
  · exact h i (by omega)
theorem muRow_next {R : List (List Bool)} {i k : Nat} (h : MuRow R i k) (h1 : cf R i k = cf R k i) : MuRow R i (k + 1) := fun j hj => by
  by_cases e : j = k
  · subst e; exact h1
  · exact h j (by omega)
theorem muTo_next {R : List (List Bool)} {k : Nat} (h : MuTo R k) (h1 : cf R k k = false) (h2 : MuRow R k k) : MuTo R (k + 1) := fun j hj => by
  by_cases e : j = k
  · subst e; exact ⟨h1, h2⟩
  · exact h j (by omega)
theorem TbOk.sym {R : List (List Bool)} (h : TbOk R) : ∀ a b, a < R.length → b < R.length → cf R a b = cf R b a := fun a b ha hb => by
  rcases Nat.lt_trichotomy a b with e | e | e
  · exact ((h.2.2 b hb).2 a e).symm
  · rw [e]
  · exact (h.2.2 a ha).2 b e
/-- The sets of conflicts. -/
def csN (R : List (List Bool)) (i : Nat) : Nat := stN (cf R i) R.length
def setL (R : List (List Bool)) : List Int := (List.range R.length).map fun i => (csN R i : Int)
theorem setL_len (R : List (List Bool)) : (setL R).length = R.length := by simp [setL]
theorem setL_el {R : List (List Bool)} {i : Nat} (h : i < R.length) : el (setL R) i = (csN R i : Int) := by simp [el, setL, h]
theorem csN_lt {R : List (List Bool)} (h : R.length ≤ 10) (i : Nat) : csN R i < 1024 := stN_lt10 _ h
theorem csN_bit {R : List (List Bool)} {i j : Nat} (h : j < R.length) : (csN R i).testBit j = cf R i j := by rw [csN, stN_bit]; simp [h]
/-- Sets in memory: number i of a slice. -/
theorem sets_at {w : World} {B : Nat} {a : Option Addr} {R : List (List Bool)} (h : Ints .u16 w B a (setL R)) {i : Nat} (hi : i < R.length) : ∃ b off, a = some ⟨b, off, none⟩ ∧ b < B ∧ w.cell? ⟨b, off + i, none⟩ = some (.int .u16 (csN R i : Int)) := by
  obtain ⟨b, off, e, hb, hc⟩ := h.at_ (i := i) (by rw [setL_len]; exact hi)
  rw [setL_el hi] at hc
  exact ⟨b, off, e, hb, hc⟩
set_option maxRecDepth 10000 in
set_option maxHeartbeats 1000000 in
theorem conflictsMutual_is (a : Option Addr) (n c B : Nat) (R : List (List Bool)) (r : Bool) (w : World) (hx : Ints .u16 w B a (setL R)) (hn : n = R.length) (h10 : R.length ≤ 10) (hr : (MuTo R R.length ∧ r = true) ∨ (¬ MuTo R R.length ∧ r = false)) :
    Calls Try.prog 71 #[.slice a n c] w fun e w' => e = .returned (.bool r) ∧ ∃ n, w' = w.drewN n := by
  have HX0 := Lib.hid hx
  have HR := Lib.hid hr
  subst hn
  clear hx hr
  go_enter Try.func71, Try.ntmps71
  go_wp2
  go_loopw [8] (fun i wr => ∃ k q : Nat, k ≤ R.length ∧ i = .int .i64 (k : Int) ∧ MuTo R k ∧ wr = w.drewN q) (fun i _ => R.length - (intOf i).toNat)
  case atStart => exact ⟨0, 0, Nat.zero_le _, rfl, fun i hi => absurd hi (by omega), rfl⟩
  case round =>
    obtain ⟨k, q, hk, rfl, hmu, hq⟩ := hrel
    have HM := Lib.hid hmu
    have HX := Lib.hid (show Ints .u16 wr B a (setL R) by rw [hq]; exact HX0.out.drewN q)
    have HQ := Lib.hid hq
    clear hmu hq
    by_cases hlt : k < R.length
    · obtain ⟨b, off, rfl, hb, hc⟩ := sets_at HX.out hlt
      have hcn := csN_lt h10 k
      cases hd : cf R k k
      · have HH := Lib.hid (fun W => setHas_is (csN R k) k false W (by omega) (by omega) (by rw [csN_bit hlt]; exact hd))
        have HD := Lib.hid hd
        clear hd
        generalize hS : csN R k = S at *
        have HSk := Lib.hid hS
        clear hS
        go_wp2_with (go_at_call 77; ((with_reducible refine (HH.out _).mono ?_); rintro e w1 ⟨rfl, rfl⟩))
        obtain ⟨wo, rfl⟩ : ∃ wo, wo = wr := ⟨wr, rfl⟩
        go_loopw [17] (fun i wr => ∃ j q : Nat, j ≤ k ∧ i = .int .i64 (j : Int) ∧ MuRow R k j ∧ wr = w.drewN q) (fun i _ => k - (intOf i).toNat)
        case atStart => exact ⟨0, q, Nat.zero_le _, rfl, fun i hi => absurd hi (by omega), HQ.out⟩
        case round =>
          obtain ⟨j, q2, hj, rfl, hrow, hq2⟩ := hrel
          have HW := Lib.hid hrow
          have HX2 := Lib.hid (show Ints .u16 wr B (some ⟨b, off, none⟩) (setL R) by rw [hq2]; exact HX0.out.drewN q2)
          have HQ2 := Lib.hid hq2
          clear hrow hq2
          by_cases hjl : j < k
          · obtain ⟨b2, off2, e2, _, hc2⟩ := sets_at HX2.out (i := j) (by omega)
            injection e2 with e2
            injection e2 with e2 e3
            subst e2 e3
            have hcn2 := csN_lt h10 j
            have hj16 : j < 16 := by omega
            obtain ⟨x, hx⟩ : ∃ x, x = cf R k j := ⟨_, rfl⟩
            obtain ⟨y, hy⟩ : ∃ y, y = cf R j k := ⟨_, rfl⟩
            have H1 := Lib.hid (fun m => setHas_q S j x (wr.drewN m) (by omega) (by omega) (by rw [← HSk.out, csN_bit (by omega)]; exact hx.symm))
            have H2 := Lib.hid (fun m => setHas_q (csN R j) k y (wr.drewN m) (by omega) (by omega) (by rw [csN_bit hlt]; exact hy.symm))
            generalize csN R j = U at *
            by_cases hxy : x = y
            · have HN := Lib.hid (muRow_next HW.out (by rw [← hx, ← hy]; exact hxy))
              have z : (!(x == y)) = false := by simp [hxy]
              clear hx hy hxy
              go_wp2
              go_quiet (first
                | (go_at_call 77; with_reducible exact Calls.quiet_of_same (H1.out _))
                | (go_at_call 77; with_reducible exact Calls.quiet_of_same (H2.out _)))
              go_wp2
              go_roundw
              case rel => exact ⟨j + 1, _, by omega, by go_num, HN.out, by rw [HQ2.out, World.drewN_drewN]⟩
              case measure => simp [intOf]; omega
            · have z : (!(x == y)) = true := by simp [hxy]
              have HE : Hid (r = false) := by
                rcases HR.out with h | h
                · exact absurd ((h.1 k hlt).2 j hjl) (by rw [← hx, ← hy]; exact hxy)
                · exact h.2
              clear hx hy hxy
              go_wp2
              go_quiet (first
                | (go_at_call 77; with_reducible exact Calls.quiet_of_same (H1.out _))
                | (go_at_call 77; with_reducible exact Calls.quiet_of_same (H2.out _)))
              go_wp2
              go_ret
              exact ⟨ret_bool HE.out.symm, _, by rw [HQ2.out, World.drewN_drewN]⟩
          · obtain rfl : k = j := by omega
            have HN := Lib.hid (muTo_next HM.out HD.out HW.out)
            go_wp2
            go_roundw
            case rel => exact ⟨k + 1, q2, by omega, by go_num, HN.out, HQ2.out⟩
            case measure => simp [intOf]; omega
      · have HH := Lib.hid (fun W => setHas_is (csN R k) k true W (by omega) (by omega) (by rw [csN_bit hlt]; exact hd))
        have HE : Hid (r = false) := by
          rcases HR.out with h | h
          · exact absurd (h.1 k hlt).1 (by rw [hd]; simp)
          · exact h.2
        clear hd
        go_wp2_with (go_at_call 77; ((with_reducible refine (HH.out _).mono ?_); rintro e w1 ⟨rfl, rfl⟩))
        go_ret
        exact ⟨ret_bool HE.out.symm, q, HQ.out⟩
    · obtain rfl : R.length = k := by omega
      have HE : Hid (r = true) := by
        rcases HR.out with h | h
        · exact h.2
        · exact absurd HM.out h.1
      go_wp2
      go_ret
      exact ⟨ret_bool HE.out.symm, q, HQ.out⟩
set_option maxRecDepth 10000 in
theorem Try.infoSet : (Try.prog.info? 62).map (fun i => (i.zero, i.size, i.bytes)) = some (some (.int .u16 0), 1, 2) := by kernel_rfl
set_option maxRecDepth 10000 in
theorem makeU (n : Nat) (hn : n ≤ 1000000) (w : World) : (Instr.makeSlice 58 (.int .i64 (n : Int)) (.int .i64 (n : Int))).run Try.prog w = .ok (.slice (some ⟨w.heap.size, 0, none⟩) n n) (w.alloc (.cells (madeCells #[.int .u16 0] n) 62)) :=
  run_make_row' (P := Try.prog) 58 62 (.int .u16 0) 2 Try.underlying58 Try.infoSet rfl .i64 .i64 n (by omega) (by omega) w
/-- The first k sets are known. -/
def RowU (W : World) (b : Nat) (R : List (List Bool)) (k : Nat) : Prop := W.rowIs b 62 R.length (fun j => .int .u16 ((if j < k then csN R j else 0 : Nat) : Int))
set_option maxRecDepth 10000 in
theorem rowU_made (w : World) (R : List (List Bool)) : RowU (w.alloc (.cells (madeCells #[.int .u16 0] R.length) 62)) w.heap.size R 0 :=
  (World.rowIs_made w (.int .u16 0) R.length 62).congr fun j _ => by simp
theorem RowU.set {W : World} {b k : Nat} {R : List (List Bool)} (h : RowU W b R k) {S : Nat} (hS : csN R k = S) : RowU (W.setCell ⟨b, k, none⟩ (.int .u16 (S : Int))) b R (k + 1) :=
  (World.rowIs.set h k _).congr fun j _ => by
    by_cases e : j = k
    · subst e; simp [hS]
    · by_cases e2 : j < k
      · simp [e, e2, Nat.lt_succ_of_lt e2]
      · simp [e, e2, show ¬ j < k + 1 by omega]
theorem RowU.ints {W : World} {b : Nat} {R : List (List Bool)} (h : RowU W b R R.length) : Ints .u16 W W.heap.size (some ⟨b, 0, none⟩) (setL R) :=
  ints_of_row (n := R.length) ((World.rowIs.congr h fun i hi => by rw [setL_el hi, if_pos hi])) (setL_len R).symm (World.rowIs.lt h)
/-- What the sets of conflicts of a table leave. -/
def CsP (R : List (List Bool)) (w : World) (e : Ending) (w' : World) : Prop :=
  ∃ a n c, e = .returned (.tuple #[.slice a n c, .bool (tbB R)]) ∧ Below w.heap.size w w' ∧ (tbB R = true → n = R.length ∧ Ints .u16 w' w'.heap.size a (setL R))
set_option maxRecDepth 10000 in
set_option maxHeartbeats 1000000 in
theorem conflictSets_any (a : Option Addr) (c : Nat) (R : List (List Bool)) (w : World) (hx : TbL w w.heap.size a R) :
    Calls Try.prog 55 #[.slice a R.length c] w (CsP R w) := by
  have HX := Lib.hid hx
  clear hx
  by_cases h10 : R.length ≤ 10
  · have hmk := makeU R.length (by omega)
    have hg : ¬ (10 : Int) < (R.length : Int) := by omega
    have H0 := Lib.hid (rowU_made w R)
    have B0 := Lib.hid (alloc_belowX w (.cells (madeCells #[.int .u16 0] R.length) 62))
    go_enter Try.func55, Try.ntmps55
    go_wp2
    clear hmk hg
    generalize w.alloc (.cells (madeCells #[.int .u16 0] R.length) 62) = W0 at *
    go_loopw [15] (fun i wr => ∃ k : Nat, k ≤ R.length ∧ i = .int .i64 (k : Int) ∧ SqTo R k ∧ RowU wr w.heap.size R k ∧ Below w.heap.size w wr) (fun i _ => R.length - (intOf i).toNat)
    case atStart => exact ⟨0, Nat.zero_le _, rfl, fun i hi => absurd hi (by omega), H0.out, B0.out⟩
    case round =>
      obtain ⟨k, hk, rfl, hsq, hro, hbe⟩ := hrel
      have HQ := Lib.hid hsq
      have HO := Lib.hid hro
      have HB := Lib.hid hbe
      clear hsq hro hbe
      by_cases hlt : k < R.length
      · obtain ⟨b, off, ad, cp, rfl, hrow, hcp, hcm, hbl⟩ := (HX.out.below HB.out).at_ hlt
        by_cases hl : (rwB R k).length = R.length
        · have HN := Lib.hid (sqTo_next HQ.out hl)
          obtain ⟨S, hS⟩ : ∃ S, csN R k = S := ⟨_, rfl⟩
          have HC := Lib.hid (fun W (hW : Bls W w.heap.size ad (rwB R k)) => setOfRow_is ad cp w.heap.size S (rwB R k) W hW (by omega) (by rw [hl]; exact hS))
          rw [hl] at HC hrow
          have HC1 := Lib.hid (HC.out _ hbl)
          have z : ((R.length : Int) != (R.length : Int)) = false := by simp
          have ck := World.rowIs.cell HO.out hlt
          have fk := World.rowIs.frozen HO.out k
          have HS := Lib.hid (HO.out.set hS)
          have HB2 := Lib.hid (HB.out.setCell (p := ⟨w.heap.size, k, none⟩) (Nat.le_refl _) (.int .u16 (S : Int)))
          clear hl hS hbl HC hcp
          go_wp2_with (go_at_call 70; ((with_reducible refine HC1.out.mono ?_); rintro e w1 ⟨rfl, rfl⟩))
          go_roundw
          case rel => exact ⟨k + 1, by omega, by go_num, HN.out, HS.out, HB2.out⟩
          case measure => simp [intOf]; omega
        · have z : (((rwB R k).length : Int) != (R.length : Int)) = true := by simp; omega
          have HE := Lib.hid (tbB_no (R := R) fun h => hl (h.2.1 k hlt))
          generalize (rwB R k).length = n at *
          clear hl
          go_wp2
          go_ret2
          exact ⟨none, 0, 0, by rw [HE.out]; rfl, HB.out, fun h => by rw [HE.out] at h; cases h⟩
      · obtain rfl : R.length = k := by omega
        have HI := Lib.hid HO.out.ints
        have HT : Hid ((MuTo R R.length ∧ tbB R = true) ∨ (¬ MuTo R R.length ∧ tbB R = false)) := by
          by_cases h : MuTo R R.length
          · exact .inl ⟨h, tbB_yes ⟨h10, HQ.out, h⟩⟩
          · exact .inr ⟨h, tbB_no fun h2 => h h2.2.2⟩
        have HM := Lib.hid (conflictsMutual_is (some ⟨w.heap.size, 0, none⟩) R.length R.length wr.heap.size R (tbB R) wr HI.out rfl h10 HT.out)
        go_wp2_with (go_at_call 71; ((with_reducible refine HM.out.mono ?_); rintro e w1 ⟨rfl, m, rfl⟩))
        go_ret2
        exact ⟨_, _, _, rfl, below_drewN HB.out m, fun _ => ⟨rfl, HI.out.drewN m⟩⟩
  · have hg : (10 : Int) < (R.length : Int) := by omega
    have HE := Lib.hid (tbB_no (R := R) fun h => h10 h.1)
    go_enter Try.func55, Try.ntmps55
    go_wp2
    go_ret2
    exact ⟨none, 0, 0, by rw [HE.out]; rfl, Below.refl _ _, fun h => by rw [HE.out] at h; cases h⟩
/-- The model looks at every pair twice. -/
def MuF (R : List (List Bool)) (i k : Nat) : Prop := ∀ j, j < k → cf R i j = cf R j i ∧ cf R i i = false
theorem muF_next {R : List (List Bool)} {i k : Nat} (h : MuF R i k) (h1 : cf R i k = cf R k i) (h2 : cf R i i = false) : MuF R i (k + 1) := fun j hj => by
  by_cases e : j = k
  · subst e; exact ⟨h1, h2⟩
  · exact h j (by omega)
theorem muTo_full {R : List (List Bool)} {k : Nat} (h : MuTo R k) (hk : k < R.length) (h1 : MuF R k R.length) : MuTo R (k + 1) := muTo_next h (h1 k hk).2 fun j hj => (h1 j (by omega)).1
end Go.Proofs.Ytnmhiagnmfpipaa
