/-
  What the permutation, the check of a number of rows and the table that a list fills answer. Conditions: at most 1,024 rows, columns and places, where a place is computed.
-/
import Derived.Test.YtmhngakfjlkchaaDoorIlvMath
import Derived.Test.YtmhngakfjlkchaaDoorImpl1
namespace Go.Proofs.YtmhngakfjlkchaaDoor
open Go.RowKit

def side8 (r : Int) : Bool := decide (1 ≤ r) && decide (r ≤ 32)
theorem side8_no {r : Int} (h : side8 r = false) : ¬ 1 ≤ r ∨ ¬ r ≤ 32 := by
  simp only [side8, Bool.and_eq_false_iff, decide_eq_false_iff_not] at h; exact h
theorem side8_yes {r : Int} (h : side8 r = true) : 1 ≤ r ∧ r ≤ 32 := by simpa [side8] using h
theorem tabOk_side {xs : List Int} {r : Int} (h : side8 r = false) : tabOk xs r = false := by
  have : ¬ (1 ≤ r ∧ r ≤ 32) := by rcases side8_no h with h | h <;> omega
  simp [tabOk, this]
theorem tabOk_bits {xs : List Int} {r : Int} (h : bitsOk xs = false) : tabOk xs r = false := by simp [tabOk, h]
theorem tabOk_eq {xs : List Int} {R : Nat} (hs : side8 R = true) (h : bitsOk xs = true) : tabOk xs (R : Int) = decide (xs.length % R = 0) := by
  have := side8_yes hs
  simp [tabOk, h, this]
theorem tableSideValid_any (r : Int) (w : World) : Calls Tryd.prog 29 #[.int .i64 r] w fun e w' => e = .returned (.bool (side8 r)) ∧ w = w' := by
  by_cases h1 : 1 ≤ r
  · by_cases h2 : r ≤ 32
    · go_enter Tryd.func29, Tryd.ntmps29
      go_wp2
      go_ret
      exact ⟨ret_bool (by simp [side8, h1, h2]), rfl⟩
    · go_enter Tryd.func29, Tryd.ntmps29
      go_wp2
      go_ret
      exact ⟨ret_bool (by simp [side8, h2]), rfl⟩
  · go_enter Tryd.func29, Tryd.ntmps29
    go_wp2
    go_ret
    exact ⟨ret_bool (by simp only [side8, decide_eq_false (show ¬ 1 ≤ r by omega), Bool.false_and]), rfl⟩

theorem wrap8 {n : Nat} (h : n ≤ 4194304) : IntKind.i64.wrap (n : Int) = n := by rw [IntKind.wrap_i64]; omega
theorem wrap8' {n : Nat} (h : n ≤ 4194304) : wrap64 (n : Int) = n := wrap64_in (by omega)
set_option maxHeartbeats 1000000 in
theorem writtenAt_any (R C k : Nat) (w : World) (hR : 1 ≤ R) (hR2 : R ≤ 1024) (hC : C ≤ 1024) (hk : k ≤ 1024) :
    Calls Tryd.prog 22 #[.agg #[.int .i64 (R : Int), .int .i64 (C : Int)], .int .i64 (k : Int)] w fun e w' => e = .returned (.int .i64 ((pm8 R C k : Nat) : Int)) ∧ Below w.heap.size w w' := by
  obtain ⟨q, hq⟩ : ∃ q, q = k % R := ⟨_, rfl⟩
  obtain ⟨d, hd⟩ : ∃ d, d = k / R := ⟨_, rfl⟩
  obtain ⟨m, hm⟩ : ∃ m, m = q * C := ⟨_, rfl⟩
  obtain ⟨s, hs⟩ : ∃ s, s = m + d := ⟨_, rfl⟩
  have hP : pm8 R C k = s := by rw [hs, hm, hq, hd]; rfl
  rw [hP]
  have hqR : q < R := by rw [hq]; exact Nat.mod_lt _ hR
  have hdk : d ≤ k := by rw [hd]; exact Nat.div_le_self _ _
  have hm1 : m ≤ 1048576 := by rw [hm]; exact Nat.mul_le_mul (show q ≤ 1024 by omega) hC
  have hs1 : s ≤ 4194304 := by omega
  have hd1 : d ≤ 4194304 := by omega
  have hz : ((R : Int) == 0) = false := by rw [beq_eq_false_iff_ne]; omega
  have hk0 : (0 : Int) ≤ (k : Int) := Int.natCast_nonneg k
  have hB := (Below.refl w.heap.size w).alloc (Nat.le_refl _)
  have HB := Lib.hid hB
  have r1 : (k : Int).tmod (R : Int) = (q : Int) := by rw [Int.tmod_eq_emod_of_nonneg hk0, hq]; rfl
  have r2 : IntKind.i64.wrap ((q : Int) * (C : Int)) = (m : Int) := by rw [← Int.natCast_mul, ← hm]; exact wrap8 (Nat.le_trans hm1 (by decide))
  have r3 : IntKind.i64.wrap ((k : Int).tdiv (R : Int)) = (d : Int) := by
    rw [Int.tdiv_eq_ediv_of_nonneg hk0, show (k : Int) / (R : Int) = ((k / R : Nat) : Int) from rfl, ← hd]; exact wrap8 hd1
  have r3' : wrap64 ((k : Int) / (R : Int)) = (d : Int) := by
    rw [show (k : Int) / (R : Int) = ((k / R : Nat) : Int) from rfl, ← hd]; exact wrap8' hd1
  have r4 : IntKind.i64.wrap ((m : Int) + (d : Int)) = (s : Int) := by rw [← Int.natCast_add, ← hs]; exact wrap8 hs1
  clear hB hP hq hd hm hs hm1 hs1 hd1 hk0 hqR hdk
  go_enter Tryd.func22, Tryd.ntmps22
  go_wp2
  go_quiet (fail)
  go_wp2
  go_ret
  exact ⟨rfl, below_drewN (HB.out _) _⟩

theorem infoTab8 : (Tryd.prog.info? 41).map (·.size) = some 2 := by kernel_rfl
theorem results_tab8 {fn : Func} {p u : Tmp} (h : fn.results = #[.cell p 41, .tmp u]) (tmps : Array Value) (w : World) (g : Nat) (x y : Value)
    (hp : tmps.getD p undef = .pointer (some ⟨g, 0, none⟩)) (hg : w.heap[g]? = some (.cells #[x, y] 41 (0, 0))) :
    (results fn tmps).run Tryd.prog w = .ok (.tuple #[.agg #[x, y], tmps.getD u undef]) w := by
  rw [results_cell_tmp h, hp]
  simp only [asAddr, Sem.run_pure, Result.andThen_ok]
  rw [run_loadVar_row w g 41 41 #[x, y] (0, 0) _ hg Tryd.underlying41 rfl (by rw [infoTab8]; rfl)]
  rfl
theorem store_tab8 {ops : Array Oper} {rest : List Oper} {o : Oper} {a : Act} {w : World} {Q : Exit → Act → World → Prop} (x y : Operand) (g : Nat) (p q p' q' : Value)
    (hg : w.heap[g]? = some (.cells #[p', q'] 41 (0, 0))) (h1 : p.oneCell' = true) (h2 : q.oneCell' = true)
    (hgd : o.guard = none) (ho : o.op = .store 41 x y) (hx : a.eval x = .pointer (some ⟨g, 0, none⟩)) (hy : a.eval y = .agg #[p, q])
    (h : wpList Tryd.prog ops Q rest (a.put o.dst undef) (w.setRow g #[p, q])) : wpList Tryd.prog ops Q (o :: rest) a w :=
  wpList_store_row hgd 41 x y ho g #[p, q] hx hy 41 #[p', q'] hg (by rw [infoTab8]; rfl) rfl (by simp [h1, h2]) h
set_option maxHeartbeats 1000000 in
theorem filledTable_no (a : Option Addr) (c : Nat) (xs : List Int) (r : Int) (w : World) (hx : Ints .i64 w w.heap.size a xs) (h : tabOk xs r = false) :
    Calls Tryd.prog 21 #[.slice a xs.length c, .int .i64 r] w fun e w' => e = .returned (.tuple #[.agg #[.int .i64 0, .int .i64 0], .bool false]) ∧ Below w.heap.size w w' := by
  have hal := fun o : Obj => (Below.refl w.heap.size w).alloc (Nat.le_refl _) o
  have HA := Lib.hid hal
  cases hs : side8 r
  · have HS := Lib.hid (fun W => tableSideValid_any r W)
    rw [hs] at HS
    clear hs h hx hal
    go_enter Tryd.func21, Tryd.ntmps21
    go_wp2_with (go_at_call 29; refine (HS.out _).mono ?_; rintro e w1 ⟨rfl, rfl⟩)
    refine bodyPost_ret (results_tab8 rfl _ _ w.heap.size _ _ rfl (heap_alloc_last _ _)) rfl ?_
    exact ⟨rfl, HA.out _⟩
  · obtain ⟨h1, h2⟩ := side8_yes hs
    obtain ⟨R, rfl⟩ := Int.eq_ofNat_of_zero_le (show 0 ≤ r by omega)
    have HS := Lib.hid (fun W => tableSideValid_any (R : Int) W)
    rw [hs] at HS
    have HV := Lib.hid (fun o : Obj => bitsValid_any a c w.heap.size xs (w.alloc o) (hx.below (hal o)) (by simp))
    cases hb : bitsOk xs
    · rw [hb] at HV
      clear hs h hx hal hb h1 h2
      go_enter Tryd.func21, Tryd.ntmps21
      go_wp2_with (first
        | (go_at_call 29; refine (HS.out _).mono ?_; rintro e w1 ⟨rfl, rfl⟩)
        | (go_at_call 24; refine (HV.out _).mono ?_; rintro e w2 ⟨rfl, b2⟩; have B2 := Lib.hid ((HA.out _).trans (b2.mono (by simp))); have G2 := Lib.hid ((b2.block w.heap.size (by simp)).trans (heap_alloc_last _ _)); clear b2)
        | (refine store_tab8 (.tmp 4) (.tmp 21) w.heap.size _ _ _ _ G2.out rfl rfl rfl rfl rfl rfl ?_))
      refine bodyPost_ret (results_tab8 rfl _ _ w.heap.size _ _ rfl (setRow_heap _ _ _ _ _ _ G2.out)) rfl ?_
      exact ⟨rfl, below_setRow B2.out (Nat.le_refl _) _⟩
    · rw [hb] at HV
      rw [tabOk_eq hs hb, decide_eq_false_iff_not] at h
      obtain ⟨q, hq⟩ : ∃ q, q = xs.length % R := ⟨_, rfl⟩
      rw [← hq] at h
      have hz0 : ¬ R = 0 := by omega
      have hne : ((q : Int) != 0) = true := by rw [bne_iff_ne]; omega
      have r1 : (xs.length : Int).tmod (R : Int) = (q : Int) := by rw [Int.tmod_eq_emod_of_nonneg (Int.natCast_nonneg _), hq]; rfl
      have r1' : (xs.length : Int) % (R : Int) = (q : Int) := by rw [hq]; rfl
      clear hs h hx hal hb h1 h2 hq
      go_enter Tryd.func21, Tryd.ntmps21
      go_wp2_with (first
        | (go_at_call 29; refine (HS.out _).mono ?_; rintro e w1 ⟨rfl, rfl⟩)
        | (go_at_call 24; refine (HV.out _).mono ?_; rintro e w2 ⟨rfl, b2⟩; have B2 := Lib.hid ((HA.out _).trans (b2.mono (by simp))); have G2 := Lib.hid ((b2.block w.heap.size (by simp)).trans (heap_alloc_last _ _)); clear b2)
        | (refine store_tab8 (.tmp 4) (.tmp 21) w.heap.size _ _ _ _ G2.out rfl rfl rfl rfl rfl rfl ?_))
      refine bodyPost_ret (results_tab8 rfl _ _ w.heap.size _ _ rfl (setRow_heap _ _ _ _ _ _ G2.out)) rfl ?_
      exact ⟨rfl, below_setRow B2.out (Nat.le_refl _) _⟩
set_option maxHeartbeats 1000000 in
theorem filledTable_yes (a : Option Addr) (c R C : Nat) (xs : List Int) (w : World) (hx : Ints .i64 w w.heap.size a xs) (h : tabOk xs (R : Int) = true) (hC : xs.length / R = C) :
    Calls Tryd.prog 21 #[.slice a xs.length c, .int .i64 (R : Int)] w fun e w' => e = .returned (.tuple #[.agg #[.int .i64 (R : Int), .int .i64 (C : Int)], .bool true]) ∧ Below w.heap.size w w' := by
  have hal := fun o : Obj => (Below.refl w.heap.size w).alloc (Nat.le_refl _) o
  have HA := Lib.hid hal
  have hb : bitsOk xs = true := by
    cases hb : bitsOk xs
    · rw [tabOk_bits hb] at h; cases h
    · rfl
  have hs : side8 R = true := by
    cases hs : side8 (R : Int)
    · rw [tabOk_side hs] at h; cases h
    · rfl
  rw [tabOk_eq hs hb, decide_eq_true_iff] at h
  obtain ⟨h1, h2⟩ := side8_yes hs
  have HS := Lib.hid (fun W => tableSideValid_any (R : Int) W)
  rw [hs] at HS
  have HV := Lib.hid (fun o : Obj => bitsValid_any a c w.heap.size xs (w.alloc o) (hx.below (hal o)) (by simp))
  rw [hb] at HV
  have hl := bitsOk_length hb
  have hC2 : C ≤ 4194304 := by rw [← hC]; exact Nat.le_trans (Nat.div_le_self _ _) (by omega)
  have hz0 : ¬ R = 0 := by omega
  have r1 : (xs.length : Int).tmod (R : Int) = 0 := by rw [Int.tmod_eq_emod_of_nonneg (Int.natCast_nonneg _)]; exact congrArg Int.ofNat h
  have r1' : (xs.length : Int) % (R : Int) = 0 := congrArg Int.ofNat h
  have r3 : IntKind.i64.wrap ((xs.length : Int).tdiv (R : Int)) = (C : Int) := by
    rw [Int.tdiv_eq_ediv_of_nonneg (Int.natCast_nonneg _), show (xs.length : Int) / (R : Int) = ((xs.length / R : Nat) : Int) from rfl, hC]; exact wrap8 hC2
  have r3' : wrap64 ((xs.length : Int) / (R : Int)) = (C : Int) := by
    rw [show (xs.length : Int) / (R : Int) = ((xs.length / R : Nat) : Int) from rfl, hC]; exact wrap8' hC2
  clear hs h hx hal hb h1 h2 hC hl hC2
  go_enter Tryd.func21, Tryd.ntmps21
  go_wp2_with (first
    | (go_at_call 29; refine (HS.out _).mono ?_; rintro e w1 ⟨rfl, rfl⟩)
    | (go_at_call 24; refine (HV.out _).mono ?_; rintro e w2 ⟨rfl, b2⟩; have B2 := Lib.hid ((HA.out _).trans (b2.mono (by simp))); have G2 := Lib.hid ((b2.block w.heap.size (by simp)).trans (heap_alloc_last _ _)); clear b2)
    | (refine store_tab8 (.tmp 4) (.tmp 27) w.heap.size _ _ _ _ G2.out rfl rfl rfl rfl rfl rfl ?_))
  refine bodyPost_ret (results_tab8 rfl _ _ w.heap.size _ _ rfl (setRow_heap _ _ _ _ _ _ G2.out)) rfl ?_
  exact ⟨rfl, below_setRow B2.out (Nat.le_refl _) _⟩
end Go.Proofs.YtmhngakfjlkchaaDoor
