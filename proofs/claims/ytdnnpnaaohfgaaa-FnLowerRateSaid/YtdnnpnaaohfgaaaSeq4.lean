/-
  What RaiseRate, LowerRate and their models answer, for all arguments. Condition: the list can be read; the models: its length can be.
-/
import Derived.Test.YtdnnpnaaohfgaaaSeq3
namespace Go.Proofs.Ytdnnpnaaohfgaaa
open Go.RowKit

def facOk (n : Int) : Bool := decide (1 ≤ n) && decide (n ≤ 8)
theorem facOk_yes {n : Int} (h : facOk n = true) : ∃ N : Nat, n = (N : Int) ∧ 1 ≤ N ∧ N ≤ 8 := by
  simp only [facOk, Bool.and_eq_true, decide_eq_true_eq] at h
  exact ⟨n.toNat, by omega, by omega, by omega⟩
theorem factorValid_any (n : Int) (w : World) : Calls Try.prog 44 #[.int .i64 n] w fun e w' => e = .returned (.bool (facOk n)) ∧ w = w' := by
  by_cases h1 : 1 ≤ n
  · by_cases h2 : n ≤ 8
    · go_enter Try.func44, Try.ntmps44
      go_wp2
      go_ret
      exact ⟨ret_bool (by simp [facOk, h1, h2]), rfl⟩
    · go_enter Try.func44, Try.ntmps44
      go_wp2
      go_ret
      exact ⟨ret_bool (by simp [facOk, h2]), rfl⟩
  · go_enter Try.func44, Try.ntmps44
    go_wp2
    go_ret
    exact ⟨ret_bool (by simp only [facOk, decide_eq_false (show ¬ 1 ≤ n by omega), Bool.false_and]), rfl⟩
theorem factorValid_is (n : Int) (w : World) (b : Bool) (h : facOk n = b) : Calls Try.prog 44 #[.int .i64 n] w fun e w' => e = .returned (.bool b) ∧ w = w' := by
  subst h; exact factorValid_any n w
theorem l1In_fac (n : Int) (w : World) (b : Bool) (h : facOk n = b) : Calls Try.prog 38 #[.int .i64 n, .int .i64 1, .int .i64 8] w fun e w' => e = .returned (.bool b) ∧ w = w' := by
  subst h; exact l1In_any n 1 8 w
/-- A row that is being raised: the first k numbers lie in it. -/
def raiX (xs : List Int) (N k j : Nat) : Int := if j / N < k then raiN xs N j else 0
theorem row_rai {w : World} {b : Nat} {t : TypeId} {n N k : Nat} {xs : List Int} (hN : 1 ≤ N) (h : w.rowIs b t n fun j => .int .i64 (raiX xs N k j)) :
    (w.setCell ⟨b, k * N, none⟩ (.int .i64 (el xs k))).rowIs b t n fun j => .int .i64 (raiX xs N (k + 1) j) :=
  (h.set (k * N) (.int .i64 (el xs k))).congr fun j _ => by
    unfold raiX raiN
    by_cases e : j = k * N
    · subst e
      have h1 : k * N / N = k := Nat.mul_div_cancel _ (by omega)
      have h2 : k * N % N = 0 := Nat.mul_mod_left _ _
      simp [h1, h2]
    · simp only [e, if_false]
      by_cases h2 : j / N = k
      · have h3 : j % N ≠ 0 := fun h3 => e (by have := Nat.div_add_mod j N; rw [h2, h3, Nat.mul_comm] at this; omega)
        simp [h2, h3]
      · by_cases h4 : j / N < k
        · simp [h4, Nat.lt_succ_of_lt h4]
        · simp [h4, show ¬ j / N < k + 1 by omega]
theorem raiX_done {xs : List Int} {N j : Nat} (hN : 1 ≤ N) (hj : j < xs.length * N) : raiX xs N xs.length j = el (rai xs N) j := by
  have h1 : j / N < xs.length := (Nat.div_lt_iff_lt_mul (by omega)).2 hj
  rw [raiX, if_pos h1, rai, el_map hj]

set_option maxHeartbeats 1000000 in
theorem raised_any (a : Option Addr) (c N : Nat) (xs : List Int) (w : World) (hx : Ints .i64 w w.heap.size a xs) (hN1 : 1 ≤ N) (hN8 : N ≤ 8) (hM : xs.length * N ≤ 64) :
    Calls Try.prog 45 #[.slice a xs.length c, .int .i64 (N : Int)] w (ListPostC (rai xs N) w) := by
  have hal := fun o : Obj => (Below.refl w.heap.size w).alloc (Nat.le_refl _) o
  have HA := Lib.hid hal
  have HX := Lib.hid hx
  obtain ⟨M, hMM⟩ : ∃ M, M = xs.length * N := ⟨_, rfl⟩
  have HM := Lib.hid hMM
  rw [← hMM] at hM
  have hl : xs.length ≤ 64 := by
    have : xs.length * 1 ≤ xs.length * N := Nat.mul_le_mul_left _ hN1
    omega
  have hmk := run_make_row' (P := Try.prog) 47 3 (.int .i64 0) 8 Try.underlying47 Try.infoInt rfl .i64 .i64 M (by omega) (by omega)
  have r1 : IntKind.i64.wrap ((xs.length : Int) * (N : Int)) = (M : Int) := by rw [← Int.natCast_mul, ← hMM]; exact wrapS (by omega)
  have r1' : wrap64 ((xs.length : Int) * (N : Int)) = (M : Int) := by rw [← Int.natCast_mul, ← hMM]; exact wrapS' (by omega)
  have HN := Lib.hid hN1
  clear hx hal hMM hN1
  go_enter Try.func45, Try.ntmps45
  go_wp2
  clear r1 r1' hmk
  go_loopw [15] (fun i wr => ∃ k : Nat, k ≤ xs.length ∧ i = .int .i64 k ∧ wr.rowIs w.heap.size 3 M (fun j => .int .i64 (raiX xs N k j)) ∧ Below w.heap.size w wr) (fun i _ => xs.length - (intOf i).toNat)
  case atStart =>
    refine ⟨0, Nat.zero_le _, rfl, ?_, HA.out _⟩
    exact (World.rowIs_made w (.int .i64 0) M 3).congr (by intro j hj; simp [raiX])
  case round =>
    obtain ⟨k, hk, rfl, hrow, hbel⟩ := hrel
    have hk64 : k ≤ 64 := Nat.le_trans hk hl
    by_cases hlt : k < xs.length
    · obtain ⟨b, off, rfl, hb, hc⟩ := (HX.out.below hbel).at_ hlt
      have H2 := Lib.hid (row_rai HN.out hrow)
      obtain ⟨g, hg⟩ : ∃ g, g = k * N := ⟨_, rfl⟩
      have hgM : g < M := by
        have : (k + 1) * N ≤ xs.length * N := Nat.mul_le_mul_right _ hlt
        rw [Nat.add_mul, Nat.one_mul, ← HM.out] at this
        have := HN.out
        omega
      have hf := hrow.frozen g
      have hcv := hrow.cell hgM
      have hB := Lib.hid (hbel.setCell (p := ⟨w.heap.size, g, none⟩) (Nat.le_refl _) (.int .i64 (el xs k)))
      rw [← hg] at H2
      have r1 : IntKind.i64.wrap ((k : Int) * (N : Int)) = (g : Int) := by rw [← Int.natCast_mul, ← hg]; exact wrapS (by omega)
      have r1' : wrap64 ((k : Int) * (N : Int)) = (g : Int) := by rw [← Int.natCast_mul, ← hg]; exact wrapS' (by omega)
      clear hrow hbel hb hg
      go_wp2
      go_roundw
      case rel => exact ⟨k + 1, by omega, by go_num, H2.out, hB.out⟩
      case measure => simp [intOf]; omega
    · obtain rfl : xs.length = k := by omega
      have HR := Lib.hid (hrow.congr (g := fun j => .int .i64 (el (rai xs N) j)) (by intro j hj; rw [raiX_done HN.out (by rw [← HM.out]; exact hj)]))
      have HL := Lib.hid (show M = (rai xs N).length by rw [rai_length, HM.out])
      have HB := Lib.hid hbel
      clear hrow hbel
      go_wp2
      go_ret
      exact listPostC_row HR.out HL.out (by unfold maxLen; omega) (Nat.le_refl _) HB.out
set_option maxHeartbeats 1000000 in
theorem raiseRate_any (a : Option Addr) (c : Nat) (xs : List Int) (n : Int) (w : World) (hx : Ints .i64 w w.heap.size a xs) :
    Calls Try.prog 27 #[.slice a xs.length c, .int .i64 n] w (ListPostC (raiOr xs n) w) := by
  have HV := Lib.hid (fun b h => seqValid_is a c w.heap.size xs w b hx h)
  cases h1 : seqOk xs
  · have H1 := Lib.hid (HV.out false h1)
    have HE := Lib.hid (raiOr_no (xs := xs) (n := n) (by simp [h1]))
    clear hx HV h1
    go_enter Try.func27, Try.ntmps27
    go_wp2_with (go_at_call 37; ((with_reducible refine H1.out.mono ?_); rintro e w' ⟨rfl, rfl⟩))
    go_ret
    rw [HE.out]
    exact listPostC_nil (Below.refl _ _)
  · have H1 := Lib.hid (HV.out true h1)
    cases h2 : facOk n
    · have H2 := Lib.hid (factorValid_is n w false h2)
      have HE := Lib.hid (raiOr_no (xs := xs) (n := n) (fun h => by
        have : facOk n = true := by simp [facOk, h.2.1, h.2.2.1]
        rw [h2] at this; cases this))
      clear hx HV h1 h2
      go_enter Try.func27, Try.ntmps27
      go_wp2_with (first | (go_at_call 37; ((with_reducible refine H1.out.mono ?_); rintro e w' ⟨rfl, rfl⟩)) | (go_at_call 44; refine H2.out.mono ?_; rintro e w' ⟨rfl, rfl⟩))
      go_ret
      rw [HE.out]
      exact listPostC_nil (Below.refl _ _)
    · have H2 := Lib.hid (factorValid_is n w true h2)
      obtain ⟨N, rfl, hN1, hN8⟩ := facOk_yes h2
      have hl := seqOk_len h1
      obtain ⟨M, hM⟩ : ∃ M, M = xs.length * N := ⟨_, rfl⟩
      have hM2 : M ≤ 512 := by
        have : xs.length * N ≤ 64 * 8 := Nat.mul_le_mul hl hN8
        omega
      have r1 : IntKind.i64.wrap ((xs.length : Int) * (N : Int)) = (M : Int) := by rw [← Int.natCast_mul, ← hM]; exact wrapS (by omega)
      have r1' : wrap64 ((xs.length : Int) * (N : Int)) = (M : Int) := by rw [← Int.natCast_mul, ← hM]; exact wrapS' (by omega)
      by_cases h3 : M ≤ 64
      · have HC := Lib.hid (raised_any a c N xs w hx hN1 hN8 (by omega))
        have HE := Lib.hid (raiOr_yes h1 hN1 hN8 (by omega))
        clear hx HV h1 h2 hM hl hN1 hN8
        go_enter Try.func27, Try.ntmps27
        go_wp2_with (first | (go_at_call 37; ((with_reducible refine H1.out.mono ?_); rintro e w' ⟨rfl, rfl⟩)) | (go_at_call 44; refine H2.out.mono ?_; rintro e w' ⟨rfl, rfl⟩) | (go_at_call 45; refine HC.out.mono ?_; rintro e w1 ⟨v1, cv1, rfl, q1, o1, b1⟩; have HP : Hid (ListPostC (rai xs N) w (.returned (.slice v1 (rai xs N).length cv1)) w1) := ⟨v1, cv1, rfl, q1, o1, b1⟩; clear q1 o1 b1; rw [← HE.out] at *; generalize (raiOr xs (N : Int)).length = m at *))
        go_ret
        exact HP.out
      · have HE := Lib.hid (raiOr_no (xs := xs) (n := (N : Int)) (fun h => h3 (by have := h.2.2.2; rw [hM]; exact_mod_cast this)))
        clear hx HV h1 h2 hM hl hN1 hN8
        go_enter Try.func27, Try.ntmps27
        go_wp2_with (first | (go_at_call 37; ((with_reducible refine H1.out.mono ?_); rintro e w' ⟨rfl, rfl⟩)) | (go_at_call 44; refine H2.out.mono ?_; rintro e w' ⟨rfl, rfl⟩))
        go_ret
        rw [HE.out]
        exact listPostC_nil (Below.refl _ _)
set_option maxHeartbeats 1000000 in
theorem specRaiseRate_any (a : Option Addr) (c : Nat) (xs : List Int) (n : Int) (w : World) (hx : Ints .i64 w w.heap.size a xs) (hlx0 : xs.length ≤ maxLen) :
    Calls Try.prog 28 #[.slice a xs.length c, .int .i64 n] w (ListPostC (raiOr xs n) w) := by
  have hal := fun o : Obj => (Below.refl w.heap.size w).alloc (Nat.le_refl _) o
  have HA := Lib.hid hal
  have HV := Lib.hid (fun (o : Obj) b h => specSeqValid_is a c w.heap.size xs (w.alloc o) b (hx.below (hal o)) hlx0 h)
  have HX := Lib.hid hx
  clear hx hal hlx0
  cases h1 : seqOk xs
  · have H1 := Lib.hid (fun o => HV.out o false h1)
    have HE := Lib.hid (raiOr_no (xs := xs) (n := n) (by simp [h1]))
    clear HV h1
    go_enter Try.func28, Try.ntmps28
    go_wp2_with (go_at_call 14; ((with_reducible refine (H1.out _).mono ?_); rintro e w' ⟨rfl, rfl⟩))
    go_ret
    rw [HE.out]
    exact listPostC_grow (Grow.lit0 _ _ _ _ (Nat.le_refl _)) (HA.out _)
  · have H1 := Lib.hid (fun o => HV.out o true h1)
    cases h2 : facOk n
    · have H2 := Lib.hid (fun W => l1In_fac n W false h2)
      have HE := Lib.hid (raiOr_no (xs := xs) (n := n) (fun h => by
        have : facOk n = true := by simp [facOk, h.2.1, h.2.2.1]
        rw [h2] at this; cases this))
      clear HV h1 h2
      go_enter Try.func28, Try.ntmps28
      go_wp2_with (first | (go_at_call 14; ((with_reducible refine (H1.out _).mono ?_); rintro e w' ⟨rfl, rfl⟩)) | (go_at_call 38; refine (H2.out _).mono ?_; rintro e w' ⟨rfl, rfl⟩))
      go_ret
      rw [HE.out]
      exact listPostC_grow (Grow.lit0 _ _ _ _ (Nat.le_refl _)) (HA.out _)
    · have H2 := Lib.hid (fun W => l1In_fac n W true h2)
      obtain ⟨N, rfl, hN1, hN8⟩ := facOk_yes h2
      have hl := seqOk_len h1
      obtain ⟨M, hM⟩ : ∃ M, M = xs.length * N := ⟨_, rfl⟩
      have hM2 : M ≤ 512 := by
        have : xs.length * N ≤ 64 * 8 := Nat.mul_le_mul hl hN8
        omega
      have r1 : IntKind.i64.wrap ((xs.length : Int) * (N : Int)) = (M : Int) := by rw [← Int.natCast_mul, ← hM]; exact wrapS (by omega)
      have r1' : wrap64 ((xs.length : Int) * (N : Int)) = (M : Int) := by rw [← Int.natCast_mul, ← hM]; exact wrapS' (by omega)
      by_cases h3 : M ≤ 64
      · have HE := Lib.hid (raiOr_yes h1 hN1 hN8 (by omega))
        have HM := Lib.hid hM
        have hz0 : ¬ N = 0 := by omega
        have HN := Lib.hid (And.intro hN1 hN8)
        clear HV h1 h2 hM hN1 hN8
        go_enter Try.func28, Try.ntmps28
        go_wp2_with (first | (go_at_call 14; ((with_reducible refine (H1.out _).mono ?_); rintro e w' ⟨rfl, rfl⟩)) | (go_at_call 38; refine (H2.out _).mono ?_; rintro e w' ⟨rfl, rfl⟩))
        go_loopw [5, 6] (fun s i wr => ∃ (k : Nat) (v : Option Addr) (cap : Nat), k ≤ M ∧ i = .int .i64 k ∧ s = .slice v k cap ∧ Grow .i64 3 wr w.heap.size v k cap ((rai xs N).take k) ∧ Below w.heap.size w wr) (fun _ i _ => M - (intOf i).toNat)
        case atStart => exact ⟨0, _, _, Nat.zero_le _, rfl, rfl, Grow.lit0 _ _ _ _ (Nat.le_refl _), HA.out _⟩
        case round =>
          obtain ⟨k, v, cap, hk, rfl, rfl, hgr, hbel⟩ := hrel
          have HG := Lib.hid hgr
          have HB := Lib.hid hbel
          have hsz : w.heap.size ≤ wr.heap.size := hbel.size
          clear hgr
          by_cases hlt : k < M
          · have hkl : k < (rai xs N).length := by rw [rai_length, ← HM.out]; exact hlt
            have hel : el (rai xs N) k = raiN xs N k := by unfold rai; exact el_map (by rw [← HM.out]; exact hlt)
            have HT := Lib.hid (take_el hkl)
            obtain ⟨q, hq⟩ : ∃ q, q = k % N := ⟨_, rfl⟩
            obtain ⟨d, hd⟩ : ∃ d, d = k / N := ⟨_, rfl⟩
            have hdl : d < xs.length := by rw [hd]; exact (Nat.div_lt_iff_lt_mul (by omega)).2 (by rw [← HM.out]; exact hlt)
            obtain ⟨b, off, rfl, hb, hc⟩ := (HX.out.below hbel).at_ hdl
            have hk0 : (0 : Int) ≤ (k : Int) := Int.natCast_nonneg k
            have r2 : (k : Int).tmod (N : Int) = (q : Int) := by rw [Int.tmod_eq_emod_of_nonneg hk0, hq]; rfl
            have r2' : (k : Int) % (N : Int) = (q : Int) := by rw [hq]; rfl
            have r3 : IntKind.i64.wrap ((k : Int).tdiv (N : Int)) = (d : Int) := by
              rw [Int.tdiv_eq_ediv_of_nonneg hk0, show (k : Int) / (N : Int) = ((k / N : Nat) : Int) from rfl, ← hd]; exact wrapS (by omega)
            have r3' : wrap64 ((k : Int) / (N : Int)) = (d : Int) := by
              rw [show (k : Int) / (N : Int) = ((k / N : Nat) : Int) from rfl, ← hd]; exact wrapS' (by omega)
            by_cases hq0 : q = 0
            · have z : ((q : Int) == 0) = true := by simp [hq0]
              have HV := Lib.hid (show el (rai xs N) k = el xs d by rw [hel, raiN, ← hq, if_pos hq0, hd])
              clear hbel hb hel hq hd hq0 hk0 hkl
              go_wp2_with (at_builtin; refine wpList_append1 (.tmp 43) (.tmp 45) w.heap.size v k cap ((rai xs N).take k) ⟨wr.heap.size, 0, none⟩ (el xs d) rfl rfl rfl rfl (HG.out.alloc _) (by simp) (by omega) (by simp; omega) ?_; intro a3 cap3 w3 hg3 hb3; have HG3 := Lib.hid hg3; have HB3 := Lib.hid hb3; clear hg3 hb3)
              clear r2 r2' r3 r3'
              go_roundw
              case rel => exact ⟨k + 1, a3, cap3, by omega, by go_num, rfl, by rw [HT.out, HV.out]; exact HG3.out, (HB.out.alloc hsz _).trans HB3.out⟩
              case measure => simp [intOf]; omega
            · have z : ((q : Int) == 0) = false := by rw [beq_eq_false_iff_ne]; omega
              have HV := Lib.hid (show el (rai xs N) k = 0 by rw [hel, raiN, ← hq, if_neg hq0])
              clear hbel hb hel hq hd hq0 hk0 hkl
              go_wp2_with (at_builtin; refine wpList_append1 (.tmp 43) (.tmp 45) w.heap.size v k cap ((rai xs N).take k) ⟨wr.heap.size, 0, none⟩ 0 rfl rfl rfl rfl (HG.out.alloc _) (by simp) (by omega) (by simp; omega) ?_; intro a3 cap3 w3 hg3 hb3; have HG3 := Lib.hid hg3; have HB3 := Lib.hid hb3; clear hg3 hb3)
              clear r2 r2' r3 r3'
              go_roundw
              case rel => exact ⟨k + 1, a3, cap3, by omega, by go_num, rfl, by rw [HT.out, HV.out]; exact HG3.out, (HB.out.alloc hsz _).trans HB3.out⟩
              case measure => simp [intOf]; omega
          · have HT := Lib.hid (show (rai xs N).take k = rai xs N from List.take_of_length_le (by rw [rai_length, ← HM.out]; omega))
            clear hbel
            go_wp2
            go_ret
            rw [HE.out, ← HT.out]
            exact listPostC_grow HG.out HB.out
      · have HE := Lib.hid (raiOr_no (xs := xs) (n := (N : Int)) (fun h => h3 (by have := h.2.2.2; rw [hM]; exact_mod_cast this)))
        clear HV h1 h2 hM hl hN1 hN8
        go_enter Try.func28, Try.ntmps28
        go_wp2_with (first | (go_at_call 14; ((with_reducible refine (H1.out _).mono ?_); rintro e w' ⟨rfl, rfl⟩)) | (go_at_call 38; refine (H2.out _).mono ?_; rintro e w' ⟨rfl, rfl⟩))
        go_ret
        rw [HE.out]
        exact listPostC_grow (Grow.lit0 _ _ _ _ (Nat.le_refl _)) (HA.out _)

section
variable {w : World} {ops : Array Oper} {rest : List Oper} {o : Oper} {a : Act} {Q : Exit → Act → World → Prop}
theorem wpList_appendQ1 (s x : Operand) (base : Nat) (A : Option Addr) (n cap : Nat) (xs : List Int) (ad : Addr) (v : Int)
    (hgd : o.guard = none) (ho : o.op = .call { callee := .builtin .append, args := #[s, x], argTypes := #[47, 47] }) (hs : a.eval s = .slice A n cap) (hx : a.eval x = .slice (some ad) 1 1)
    (hg : Grow .i64 3 w base A n cap xs) (hc : w.cell? ad = some (.int .i64 v)) (hn : n < 1099511627776) (hb : base ≤ w.heap.size)
    (h : ∀ a' cap' w', Grow .i64 3 w' base a' (n + 1) cap' (xs ++ [v]) → Below base w w' → wpList Try.prog ops Q rest (a.put o.dst (.slice a' (n + 1) cap')) w') : wpList Try.prog ops Q (o :: rest) a w := by
  obtain ⟨i0, hi0, hz0, hz1, hz2⟩ := info_parts Try.infoInt
  refine wpList_append_own w hgd s x _ ho base 3 i0 (.int .i64 0) 1 8 Try.underlying47 hi0 hz0 hz1 hz2 rfl (by omega) _ n _ hs hg ad 1 1 [.int .i64 v] hx rfl ?_ (by simp [Value.oneCell']) (by unfold maxLen; omega) (by omega) hb ?_
  · intro j u hj
    match j, hj with
    | 0, hj => simp at hj; subst hj; simpa [Addr.add] using hc
  · intro v' w' h2 h3 _
    obtain ⟨a', cap', rfl, hgr, hbl⟩ := grow_of_own hg hb h2 h3
    exact h _ _ _ hgr hbl
end
set_option maxHeartbeats 1000000 in
theorem lowered_any (a : Option Addr) (c N P : Nat) (xs : List Int) (w : World) (hx : Ints .i64 w w.heap.size a xs) (hN1 : 1 ≤ N) (hN8 : N ≤ 8) (hP : P < N) (hl : xs.length ≤ 64) :
    Calls Try.prog 46 #[.slice a xs.length c, .int .i64 (N : Int), .int .i64 (P : Int)] w (ListPostC (low xs N P) w) := by
  have HX := Lib.hid hx
  have HB0 := Lib.hid (Below.refl w.heap.size w)
  have HN := Lib.hid hN1
  clear hx hN1
  go_enter Try.func46, Try.ntmps46
  go_wp2
  go_loopw [7, 8] (fun s i wr => ∃ (k j : Nat) (v : Option Addr) (cap : Nat), k = P + j * N ∧ k ≤ 72 ∧ i = .int .i64 k ∧ s = .slice v j cap ∧ j ≤ 72 ∧ (∀ i, i < j → P + i * N < xs.length) ∧ Grow .i64 3 wr w.heap.size v j cap (lowT xs N P j) ∧ Below w.heap.size w wr) (fun _ i _ => 72 - (intOf i).toNat)
  case atStart => exact ⟨P, 0, none, 0, by omega, by omega, rfl, rfl, by omega, fun i hi => absurd hi (by omega), Grow.nil _ _ _ _, HB0.out⟩
  case round =>
    obtain ⟨k, j, v, cap, hkj, hk72, rfl, rfl, hj72, hall, hgr, hbel⟩ := hrel
    have HG := Lib.hid hgr
    have HB := Lib.hid hbel
    have hsz : w.heap.size ≤ wr.heap.size := hbel.size
    clear hgr
    by_cases hlt : k < xs.length
    · obtain ⟨b, off, rfl, hb, hc⟩ := (HX.out.below hbel).at_ hlt
      have hjk : j ≤ k := by
        have : j * 1 ≤ j * N := Nat.mul_le_mul_left _ HN.out
        omega
      have HK := Lib.hid (show k + N = P + (j + 1) * N by rw [Nat.add_mul, Nat.one_mul]; omega)
      have HAl := Lib.hid (show ∀ i, i < j + 1 → P + i * N < xs.length from fun i hi => by
        by_cases e : i = j
        · rw [e, ← hkj]; exact hlt
        · exact hall i (by omega))
      have HT := Lib.hid (show lowT xs N P (j + 1) = lowT xs N P j ++ [el xs k] by rw [lowT_snoc, hkj])
      have hN0 : 1 ≤ N := HN.out
      clear hbel hb hkj hall
      go_wp2_with (at_builtin; refine wpList_appendQ1 (.tmp 17) (.tmp 22) w.heap.size v j cap (lowT xs N P j) ⟨wr.heap.size, 0, none⟩ (el xs k) rfl rfl rfl rfl (HG.out.alloc _) (by simp) (by omega) (by simp; omega) ?_; intro a3 cap3 w3 hg3 hb3; have HG3 := Lib.hid hg3; have HB3 := Lib.hid hb3; clear hg3 hb3)
      go_roundw
      case rel => exact ⟨k + N, j + 1, a3, cap3, HK.out, by omega, by go_num, rfl, by omega, HAl.out, by rw [HT.out]; exact HG3.out, (HB.out.alloc hsz _).trans HB3.out⟩
      case measure => simp [intOf]; omega
    · have HT := Lib.hid (show lowT xs N P j = low xs N P from lowT_done hP (by omega) hall)
      clear hbel hkj hall
      go_wp2
      go_ret
      rw [← HT.out]
      exact listPostC_grow HG.out HB.out
theorem lowOr_fac {xs : List Int} {n p : Int} (h : facOk n = false) : lowOr xs n p = [] := lowOr_no fun h' => by
  have : facOk n = true := by simp [facOk, h'.2.1, h'.2.2.1]
  rw [h] at this; cases this
set_option maxHeartbeats 1000000 in
theorem lowerRate_any (a : Option Addr) (c : Nat) (xs : List Int) (n p : Int) (w : World) (hx : Ints .i64 w w.heap.size a xs) :
    Calls Try.prog 29 #[.slice a xs.length c, .int .i64 n, .int .i64 p] w (ListPostC (lowOr xs n p) w) := by
  have HV := Lib.hid (fun b h => seqValid_is a c w.heap.size xs w b hx h)
  cases h1 : seqOk xs
  · have H1 := Lib.hid (HV.out false h1)
    have HE := Lib.hid (lowOr_no (xs := xs) (n := n) (p := p) (by simp [h1]))
    clear hx HV h1
    go_enter Try.func29, Try.ntmps29
    go_wp2_with (go_at_call 37; ((with_reducible refine H1.out.mono ?_); rintro e w' ⟨rfl, rfl⟩))
    go_ret
    rw [HE.out]
    exact listPostC_nil (Below.refl _ _)
  · have H1 := Lib.hid (HV.out true h1)
    cases h2 : facOk n
    · have H2 := Lib.hid (factorValid_is n w false h2)
      have HE := Lib.hid (lowOr_fac (xs := xs) (p := p) h2)
      clear hx HV h1 h2
      go_enter Try.func29, Try.ntmps29
      go_wp2_with (first | (go_at_call 37; ((with_reducible refine H1.out.mono ?_); rintro e w' ⟨rfl, rfl⟩)) | (go_at_call 44; refine H2.out.mono ?_; rintro e w' ⟨rfl, rfl⟩))
      go_ret
      rw [HE.out]
      exact listPostC_nil (Below.refl _ _)
    · have H2 := Lib.hid (factorValid_is n w true h2)
      obtain ⟨N, rfl, hN1, hN8⟩ := facOk_yes h2
      by_cases h3 : 0 ≤ p ∧ p < N
      · obtain ⟨P, rfl⟩ := Int.eq_ofNat_of_zero_le h3.1
        have hP : P < N := by omega
        have HC := Lib.hid (lowered_any a c N P xs w hx hN1 hN8 hP (seqOk_len h1))
        have HE := Lib.hid (lowOr_yes h1 hN1 hN8 hP)
        have z1 : decide ((P : Int) < 0) = false := by simp
        have z2 : decide ((N : Int) ≤ (P : Int)) = false := by simp; omega
        clear hx HV h1 h2 hN1 hN8 h3
        go_enter Try.func29, Try.ntmps29
        go_wp2_with (first | (go_at_call 37; ((with_reducible refine H1.out.mono ?_); rintro e w' ⟨rfl, rfl⟩)) | (go_at_call 44; refine H2.out.mono ?_; rintro e w' ⟨rfl, rfl⟩) | (go_at_call 46; refine HC.out.mono ?_; rintro e w1 ⟨v1, cv1, rfl, q1, o1, b1⟩; have HP : Hid (ListPostC (low xs N P) w (.returned (.slice v1 (low xs N P).length cv1)) w1) := ⟨v1, cv1, rfl, q1, o1, b1⟩; clear q1 o1 b1; rw [← HE.out] at *; generalize (lowOr xs (N : Int) (P : Int)).length = m at *))
        go_ret
        exact HP.out
      · have HE := Lib.hid (lowOr_no (xs := xs) (n := (N : Int)) (p := p) (fun h => h3 ⟨h.2.2.2.1, by omega⟩))
        rcases (show p < 0 ∨ (0 ≤ p ∧ (N : Int) ≤ p) by omega) with h4 | ⟨h4, h5⟩
        · clear hx HV h1 h2 hN1 hN8 h3
          go_enter Try.func29, Try.ntmps29
          go_wp2_with (first | (go_at_call 37; ((with_reducible refine H1.out.mono ?_); rintro e w' ⟨rfl, rfl⟩)) | (go_at_call 44; refine H2.out.mono ?_; rintro e w' ⟨rfl, rfl⟩))
          go_ret
          rw [HE.out]
          exact listPostC_nil (Below.refl _ _)
        · have z1 : decide (p < 0) = false := by simp; omega
          have z2 : decide ((N : Int) ≤ p) = true := by simp; omega
          clear hx HV h1 h2 hN1 hN8 h3
          go_enter Try.func29, Try.ntmps29
          go_wp2_with (first | (go_at_call 37; ((with_reducible refine H1.out.mono ?_); rintro e w' ⟨rfl, rfl⟩)) | (go_at_call 44; refine H2.out.mono ?_; rintro e w' ⟨rfl, rfl⟩))
          go_ret
          rw [HE.out]
          exact listPostC_nil (Below.refl _ _)
theorem l1In_is (n lo hi : Int) (w : World) (b : Bool) (h : (decide (lo ≤ n) && decide (n ≤ hi)) = b) : Calls Try.prog 38 #[.int .i64 n, .int .i64 lo, .int .i64 hi] w fun e w' => e = .returned (.bool b) ∧ w = w' := by
  subst h; exact l1In_any n lo hi w
set_option maxHeartbeats 1000000 in
theorem specLowerRate_any (a : Option Addr) (c : Nat) (xs : List Int) (n p : Int) (w : World) (hx : Ints .i64 w w.heap.size a xs) (hlx0 : xs.length ≤ maxLen) :
    Calls Try.prog 31 #[.slice a xs.length c, .int .i64 n, .int .i64 p] w (ListPostC (lowOr xs n p) w) := by
  have hal := fun o : Obj => (Below.refl w.heap.size w).alloc (Nat.le_refl _) o
  have HA := Lib.hid hal
  have HV := Lib.hid (fun (o : Obj) b h => specSeqValid_is a c w.heap.size xs (w.alloc o) b (hx.below (hal o)) hlx0 h)
  have HX := Lib.hid hx
  clear hx hal hlx0
  cases h1 : seqOk xs
  · have H1 := Lib.hid (fun o => HV.out o false h1)
    have HE := Lib.hid (lowOr_no (xs := xs) (n := n) (p := p) (by simp [h1]))
    clear HV h1
    go_enter Try.func31, Try.ntmps31
    go_wp2_with (go_at_call 14; ((with_reducible refine (H1.out _).mono ?_); rintro e w' ⟨rfl, rfl⟩))
    go_ret
    rw [HE.out]
    exact listPostC_grow (Grow.lit0 _ _ _ _ (Nat.le_refl _)) (HA.out _)
  · have H1 := Lib.hid (fun o => HV.out o true h1)
    cases h2 : facOk n
    · have H2 := Lib.hid (fun W => l1In_fac n W false h2)
      have HE := Lib.hid (lowOr_fac (xs := xs) (p := p) h2)
      clear HV h1 h2
      go_enter Try.func31, Try.ntmps31
      go_wp2_with (first | (go_at_call 14; ((with_reducible refine (H1.out _).mono ?_); rintro e w' ⟨rfl, rfl⟩)) | (go_at_call 38; refine (H2.out _).mono ?_; rintro e w' ⟨rfl, rfl⟩))
      go_ret
      rw [HE.out]
      exact listPostC_grow (Grow.lit0 _ _ _ _ (Nat.le_refl _)) (HA.out _)
    · have H2 := Lib.hid (fun W => l1In_fac n W true h2)
      obtain ⟨N, rfl, hN1, hN8⟩ := facOk_yes h2
      have hl := seqOk_len h1
      have r1 : IntKind.i64.wrap ((N : Int) - 1) = (N : Int) - 1 := wrapS (by omega)
      have r1' : wrap64 ((N : Int) - 1) = (N : Int) - 1 := wrapS' (by omega)
      by_cases h3 : 0 ≤ p ∧ p ≤ (N : Int) - 1
      · obtain ⟨P, rfl⟩ := Int.eq_ofNat_of_zero_le h3.1
        have hP : P < N := by omega
        have H3 := Lib.hid (fun W => l1In_is (P : Int) 0 ((N : Int) - 1) W true (by rw [Bool.and_eq_true, decide_eq_true_iff, decide_eq_true_iff]; exact h3))
        have HE := Lib.hid (lowOr_yes h1 hN1 hN8 hP)
        have HN := Lib.hid hN1
        clear HV h1 h2 hN1 h3
        go_enter Try.func31, Try.ntmps31
        go_wp2_with (first | (go_at_call 14; ((with_reducible refine (H1.out _).mono ?_); rintro e w' ⟨rfl, rfl⟩)) | (go_at_call 38; (with_reducible refine (H2.out _).mono ?_); rintro e w' ⟨rfl, rfl⟩) | (go_at_call 38; (with_reducible refine (H3.out _).mono ?_); rintro e w' ⟨rfl, rfl⟩))
        clear r1 r1' H1 H2 H3
        go_loopw [7, 8] (fun s i wr => ∃ (k j : Nat) (v : Option Addr) (cap : Nat), k = P + j * N ∧ k ≤ 72 ∧ i = .int .i64 k ∧ s = .slice v j cap ∧ j ≤ 72 ∧ (∀ i, i < j → P + i * N < xs.length) ∧ Grow .i64 3 wr w.heap.size v j cap (lowT xs N P j) ∧ Below w.heap.size w wr) (fun _ i _ => 72 - (intOf i).toNat)
        case atStart => exact ⟨P, 0, _, _, by omega, by omega, rfl, rfl, by omega, fun i hi => absurd hi (by omega), Grow.lit0 _ _ _ _ (Nat.le_refl _), HA.out _⟩
        case round =>
          obtain ⟨k, j, v, cap, hkj, hk72, rfl, rfl, hj72, hall, hgr, hbel⟩ := hrel
          have HG := Lib.hid hgr
          have HB := Lib.hid hbel
          have hsz : w.heap.size ≤ wr.heap.size := hbel.size
          clear hgr
          by_cases hlt : k < xs.length
          · obtain ⟨b, off, rfl, hb, hc⟩ := (HX.out.below hbel).at_ hlt
            have hjk : j ≤ k := by
              have : j * 1 ≤ j * N := Nat.mul_le_mul_left _ HN.out
              omega
            have HK := Lib.hid (show k + N = P + (j + 1) * N by rw [Nat.add_mul, Nat.one_mul]; omega)
            have HAl := Lib.hid (show ∀ i, i < j + 1 → P + i * N < xs.length from fun i hi => by
              by_cases e : i = j
              · rw [e, ← hkj]; exact hlt
              · exact hall i (by omega))
            have HT := Lib.hid (show lowT xs N P (j + 1) = lowT xs N P j ++ [el xs k] by rw [lowT_snoc, hkj])
            have hN0 : 1 ≤ N := HN.out
            clear hbel hb hkj hall
            go_wp2_with (at_builtin; refine wpList_append1 (.tmp 34) (.tmp 39) w.heap.size v j cap (lowT xs N P j) ⟨wr.heap.size, 0, none⟩ (el xs k) rfl rfl rfl rfl (HG.out.alloc _) (by simp) (by omega) (by simp; omega) ?_; intro a3 cap3 w3 hg3 hb3; have HG3 := Lib.hid hg3; have HB3 := Lib.hid hb3; clear hg3 hb3)
            go_roundw
            case rel => exact ⟨k + N, j + 1, a3, cap3, HK.out, by omega, by go_num, rfl, by omega, HAl.out, by rw [HT.out]; exact HG3.out, (HB.out.alloc hsz _).trans HB3.out⟩
            case measure => simp [intOf]; omega
          · have HT := Lib.hid (show lowT xs N P j = low xs N P from lowT_done hP (by omega) hall)
            clear hbel hkj hall
            go_wp2
            go_ret
            rw [HE.out, ← HT.out]
            exact listPostC_grow HG.out HB.out
      · have HE := Lib.hid (lowOr_no (xs := xs) (n := (N : Int)) (p := p) (fun h => h3 ⟨h.2.2.2.1, h.2.2.2.2⟩))
        have H3 := Lib.hid (fun W => l1In_is p 0 ((N : Int) - 1) W false (by rw [Bool.and_eq_false_iff, decide_eq_false_iff_not, decide_eq_false_iff_not]; omega))
        clear HV h1 h2 hN1 hN8 h3
        go_enter Try.func31, Try.ntmps31
        go_wp2_with (first | (go_at_call 14; ((with_reducible refine (H1.out _).mono ?_); rintro e w' ⟨rfl, rfl⟩)) | (go_at_call 38; (with_reducible refine (H2.out _).mono ?_); rintro e w' ⟨rfl, rfl⟩) | (go_at_call 38; (with_reducible refine (H3.out _).mono ?_); rintro e w' ⟨rfl, rfl⟩))
        go_ret
        rw [HE.out]
        exact listPostC_grow (Grow.lit0 _ _ _ _ (Nat.le_refl _)) (HA.out _)
end Go.Proofs.Ytdnnpnaaohfgaaa
