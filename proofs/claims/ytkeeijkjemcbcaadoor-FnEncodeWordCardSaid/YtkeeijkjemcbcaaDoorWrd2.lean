/-
  What the decoder's functions of four syndromes answer: the value of an error, the search for two locators, one error, the errors. Conditions: the program's two tables of the field lie in their variables; numbers below 16.
-/
import Derived.Test.YtkeeijkjemcbcaaDoorWrd1
import Derived.OwnWalk
namespace Go.Proofs.YtkeeijkjemcbcaaDoor
open Go.RowKit

/-- Four numbers by value. -/
def arr4 (a b c d : Nat) : Value := .agg #[.int .i64 a, .int .i64 b, .int .i64 c, .int .i64 d]
theorem Tabs2.alloc {w : World} (h : Tabs2 w) (o : Obj) : Tabs2 (w.alloc o) := h.next ((Below.refl _ _).alloc (Nat.le_refl _) o)
theorem below_alloc (w : World) (o : Obj) : Below w.heap.size w (w.alloc o) := (Below.refl _ _).alloc (Nat.le_refl _) o
set_option maxHeartbeats 400000 in
theorem valueAt_any (s0 s1 s2 s3 a b : Nat) (w : World) (hT : Tabs2 w) (h0 : s0 < 16) (h1 : s1 < 16) (ha : a < 16) (hb : b < 16) :
    Calls Tryd.prog 63 #[arr4 s0 s1 s2 s3, .int .i64 a, .int .i64 b] w fun e w' => e = .returned (.int .i64 (val6 s0 s1 a b : Int)) ∧ Below w.heap.size w w' := by
  have HP := Lib.hid (fun o n => fieldProduct_any s0 b ((w.alloc o).drewN n) ((hT.alloc o).drewN n) h0 hb)
  have hp := fmul_lt h0 hb
  obtain ⟨p, hp'⟩ : ∃ p, p = fmul s0 b := ⟨_, rfl⟩
  rw [← hp'] at HP hp
  obtain ⟨r, hr⟩ : ∃ r, r = s1 ^^^ p := ⟨_, rfl⟩
  have hr16 : r < 16 := by rw [hr]; exact xor_lt h1 hp
  have hx1 : bits .xor .i64 (s1 : Int) (p : Int) = (r : Int) := by rw [hr]; exact xor_word s1 p (by omega) (by omega)
  obtain ⟨x, hx⟩ : ∃ x, x = a ^^^ b := ⟨_, rfl⟩
  have hx16 : x < 16 := by rw [hx]; exact xor_lt ha hb
  have hx2 : bits .xor .i64 (a : Int) (b : Int) = (x : Int) := by rw [hx]; exact xor_word a b (by omega) (by omega)
  have HQ := Lib.hid (fun o n => fieldProduct_any a x ((w.alloc o).drewN n) ((hT.alloc o).drewN n) ha hx16)
  have hq16 := fmul_lt ha hx16
  obtain ⟨q, hq⟩ : ∃ q, q = fmul a x := ⟨_, rfl⟩
  rw [← hq] at HQ hq16
  have HV := Lib.hid (fun o n => fieldQuotient_any r q ((w.alloc o).drewN n) ((hT.alloc o).drewN n) hr16 hq16)
  have HE := Lib.hid (show fmul r (finv q) = val6 s0 s1 a b by rw [val6, hr, hp', hq, hx])
  generalize fmul r (finv q) = v at *
  have HB := Lib.hid (fun o => below_alloc w o)
  clear hT hp' hr hx hq
  unfold arr4
  go_enter Tryd.func63, Tryd.ntmps63
  go_wp2
  go_quiet ((go_at_call 53; with_reducible exact Calls.quiet_of (HP.out _ _)))
  go_wp2_with (first | (go_at_call 53; refine (HQ.out _ _).mono ?_; rintro e w' ⟨rfl, n1, rfl⟩; rw [World.drewN_drewN]) | (go_at_call 61; refine (HV.out _ _).mono ?_; rintro e w' ⟨rfl, n2, rfl⟩))
  go_ret
  exact ⟨ret_int (by rw [HE.out]), below_drewN (HB.out _) _⟩

/-- What the search for two locators answers. -/
def locV : Option (Nat × Nat) → Value
  | none => .tuple #[.int .i64 0, .int .i64 0, .bool false]
  | some (a, b) => .tuple #[.int .i64 a, .int .i64 b, .bool true]
theorem locs6_step {s p k : Nat} (hk : k < 16) : locs6 s p (16 - k) k = if k < (k ^^^ s) ∧ fmul k (k ^^^ s) = p then some (k, k ^^^ s) else locs6 s p (16 - (k + 1)) (k + 1) := by
  rw [show 16 - k = (16 - (k + 1)) + 1 by omega, locs6]
set_option maxHeartbeats 400000 in
theorem locatorsOf_any (s p : Nat) (w : World) (hT : Tabs2 w) (hs : s < 16) :
    Calls Tryd.prog 62 #[.int .i64 s, .int .i64 p] w fun e w' => e = .returned (locV (locs6 s p 15 1)) ∧ ∃ n, w' = w.drewN n := by
  obtain ⟨L, hL⟩ : ∃ L, L = locs6 s p 15 1 := ⟨_, rfl⟩
  rw [← hL]
  have HL := Lib.hid hL
  have HT := Lib.hid hT
  clear hL hT
  go_enter Tryd.func62, Tryd.ntmps62
  go_wp2
  go_loopw [7] (fun i wr => ∃ k n : Nat, (1 ≤ k ∧ k ≤ 16) ∧ i = .int .i64 k ∧ L = locs6 s p (16 - k) k ∧ wr = w.drewN n) (fun i _ => 16 - (intOf i).toNat)
  case atStart => exact ⟨1, 0, ⟨by omega, by omega⟩, rfl, HL.out, rfl⟩
  case round =>
    obtain ⟨k, n, ⟨hk1, hk⟩, rfl, hlk, rfl⟩ := hrel
    by_cases hlt : k < 16
    · rw [locs6_step hlt] at hlk
      obtain ⟨r, hr⟩ : ∃ r, r = k ^^^ s := ⟨_, rfl⟩
      have hr16 : r < 16 := by rw [hr]; exact xor_lt hlt hs
      have hx : bits .xor .i64 (k : Int) (s : Int) = (r : Int) := by rw [hr]; exact xor_word k s (by omega) (by omega)
      rw [← hr] at hlk
      clear hr
      by_cases hkr : k < r
      · have HP := Lib.hid (fieldProduct_any k r (w.drewN n) (HT.out.drewN n) hlt hr16)
        by_cases hq : fmul k r = p
        · rw [if_pos ⟨hkr, hq⟩] at hlk
          rw [hq] at HP
          have HK := Lib.hid hlk
          have z : ((p : Int) == (p : Int)) = true := by simp
          clear hlk hq
          go_wp2_with (go_at_call 53; refine HP.out.mono ?_; rintro e w' ⟨rfl, m, rfl⟩)
          go_ret3
          exact ⟨by rw [HK.out]; rfl, _, rfl⟩
        · rw [if_neg (fun h => hq h.2)] at hlk
          have HK := Lib.hid hlk
          obtain ⟨q, hqq⟩ : ∃ q, q = fmul k r := ⟨_, rfl⟩
          rw [← hqq] at HP hq
          have z : ((q : Int) == (p : Int)) = false := by rw [beq_eq_false_iff_ne]; omega
          clear hlk hqq
          go_wp2_with (go_at_call 53; refine HP.out.mono ?_; rintro e w' ⟨rfl, m, rfl⟩)
          go_roundw
          case rel => exact ⟨k + 1, _, ⟨by omega, by omega⟩, by go_num, HK.out, rfl⟩
          case measure => simp [intOf]; omega
      · rw [if_neg (fun h => hkr h.1)] at hlk
        have HK := Lib.hid hlk
        clear hlk
        go_wp2
        go_roundw
        case rel => exact ⟨k + 1, _, ⟨by omega, by omega⟩, by go_num, HK.out, rfl⟩
        case measure => simp [intOf]; omega
    · obtain rfl : k = 16 := by omega
      have HK := Lib.hid (show L = none from hlk)
      clear hlk
      go_wp2
      go_ret3
      exact ⟨by rw [HK.out]; rfl, _, rfl⟩

/-- What the search for errors leaves. -/
def ErrsAt (w : World) (e : Ending) : Option (List (Nat × Nat)) → Prop
  | none => e = .returned (.tuple #[.slice none 0 0, .bool false])
  | some [] => e = .returned (.tuple #[.slice none 0 0, .bool true])
  | some [(X, v)] => ∃ b c, e = .returned (.tuple #[.slice (some ⟨b, 0, none⟩) 1 c, .bool true]) ∧ b < w.heap.size ∧ w.cell? ⟨b, 0, none⟩ = some (.int .i64 X) ∧ w.cell? ⟨b, 1, none⟩ = some (.int .i64 v)
  | some [(X, v), (Y, u)] => ∃ b c, e = .returned (.tuple #[.slice (some ⟨b, 0, none⟩) 2 c, .bool true]) ∧ b < w.heap.size ∧ w.cell? ⟨b, 0, none⟩ = some (.int .i64 X) ∧ w.cell? ⟨b, 1, none⟩ = some (.int .i64 v) ∧
      w.cell? ⟨b, 2, none⟩ = some (.int .i64 Y) ∧ w.cell? ⟨b, 3, none⟩ = some (.int .i64 u)
  | _ => False
def ErrsPost (o : Option (List (Nat × Nat))) (w : World) (e : Ending) (w' : World) : Prop := ErrsAt w' e o ∧ Below w.heap.size w w'
/-- Four numbers lie at the beginning of a block. -/
def Box4 (w : World) (b s0 s1 s2 s3 : Nat) : Prop := b < w.heap.size ∧ w.cell? ⟨b, 0, none⟩ = some (.int .i64 s0) ∧ w.cell? ⟨b, 1, none⟩ = some (.int .i64 s1) ∧ w.cell? ⟨b, 2, none⟩ = some (.int .i64 s2) ∧ w.cell? ⟨b, 3, none⟩ = some (.int .i64 s3)
theorem box4_new (w : World) (s0 s1 s2 s3 : Nat) (t : TypeId) : Box4 (w.alloc (.cells #[.int .i64 s0, .int .i64 s1, .int .i64 s2, .int .i64 s3] t)) w.heap.size s0 s1 s2 s3 :=
  ⟨by simp, cell_of_row _ _ 0 _ _ _ (heap_alloc_last _ _), cell_of_row _ _ 1 _ _ _ (heap_alloc_last _ _), cell_of_row _ _ 2 _ _ _ (heap_alloc_last _ _), cell_of_row _ _ 3 _ _ _ (heap_alloc_last _ _)⟩
theorem Box4.next {w w' : World} {b s0 s1 s2 s3 : Nat} (h : Box4 w b s0 s1 s2 s3) (hb : Below w.heap.size w w') : Box4 w' b s0 s1 s2 s3 :=
  ⟨Nat.lt_of_lt_of_le h.1 hb.size, (hb.cell h.1).trans h.2.1, (hb.cell h.1).trans h.2.2.1, (hb.cell h.1).trans h.2.2.2.1, (hb.cell h.1).trans h.2.2.2.2⟩
theorem errsPost_one {w W : World} {X v : Nat} {t : TypeId} (hb : Below w.heap.size w W) :
    ErrsPost (some [(X, v)]) w (.returned (.tuple #[.slice (some ⟨W.heap.size, 0, none⟩) 1 1, .bool true])) (W.alloc (.cells #[.int .i64 X, .int .i64 v] t)) :=
  ⟨⟨_, _, rfl, by simp, cell_of_row _ _ 0 _ _ _ (heap_alloc_last _ _), cell_of_row _ _ 1 _ _ _ (heap_alloc_last _ _)⟩, hb.alloc hb.size _⟩
set_option maxHeartbeats 1000000 in
theorem singleError_any (s0 s1 s2 s3 : Nat) (w : World) (hT : Tabs2 w) (h0 : s0 < 16) (h1 : s1 < 16) (h2 : s2 < 16) :
    Calls Tryd.prog 60 #[arr4 s0 s1 s2 s3] w (ErrsPost (one6 s0 s1 s2 s3) w) := by
  have HB := Lib.hid (fun o => below_alloc w o)
  have HT := Lib.hid hT
  have HC := Lib.hid (box4_new w s0 s1 s2 s3 42)
  unfold arr4
  by_cases hz : s1 = 0
  · have z : ((s1 : Int) == 0) = true := by simp [hz]
    have HE := Lib.hid (show one6 s0 s1 s2 s3 = none by rw [one6, if_pos hz])
    clear hT hz HC HT
    go_enter Tryd.func60, Tryd.ntmps60
    go_wp2
    go_ret2
    rw [HE.out]
    exact ⟨rfl, HB.out _⟩
  · have z : ((s1 : Int) == 0) = false := by simp; omega
    have HQ := Lib.hid (fun o => fieldQuotient_any s1 s0 (w.alloc o) (hT.alloc o) h1 h0)
    have hE : one6 s0 s1 s2 s3 = if fmul s2 (fmul s1 (finv s0)) = s3 then some [(fmul s1 (finv s0), fmul s0 (finv (fmul s1 (finv s0))))] else none := by rw [one6, if_neg hz]
    have hL := fmul_lt h1 (finv_lt h0)
    generalize fmul s1 (finv s0) = L at *
    have hv := fmul_lt h0 (finv_lt hL)
    obtain ⟨v, hv⟩ : ∃ v, v = fmul s0 (finv L) := ⟨_, rfl⟩
    rw [← hv] at hE
    have HV := Lib.hid hv
    clear hT hz hv
    by_cases hq : fmul s2 L = s3
    · rw [if_pos hq] at hE
      have HE := Lib.hid hE
      have HZ := Lib.hid hq
      have z2 : ((s3 : Int) != (s3 : Int)) = false := by simp
      clear hE hq
      go_enter Tryd.func60, Tryd.ntmps60
      go_wp2_with fail
      refine (HQ.out _).mono ?_
      rintro e w' ⟨rfl, n1, rfl⟩
      have C1 : Hid (Box4 ((w.alloc (.cells #[.int .i64 s0, .int .i64 s1, .int .i64 s2, .int .i64 s3] 42)).drewN n1) w.heap.size s0 s1 s2 s3) := HC.out
      have B1 := Lib.hid (below_drewN (HB.out (.cells #[.int .i64 s0, .int .i64 s1, .int .i64 s2, .int .i64 s3] 42)) n1)
      generalize (w.alloc (.cells #[.int .i64 s0, .int .i64 s1, .int .i64 s2, .int .i64 s3] 42)).drewN n1 = W at *
      have HP := Lib.hid (fun n => fieldProduct_any s2 L (W.drewN n) ((HT.out.next B1.out).drewN n) h2 hL)
      have HW := Lib.hid (fun n => fieldQuotient_any s0 L (W.drewN n) ((HT.out.next B1.out).drewN n) h0 hL)
      rw [HZ.out] at HP
      rw [← HV.out] at HW
      obtain ⟨_, c0, c1, c2, c3⟩ := C1.out
      clear HQ C1 HC HT
      go_wp2
      go_quiet ((go_at_call 53; with_reducible exact Calls.quiet_of (HP.out _)))
      go_wp2_with (go_at_call 61; refine (HW.out _).mono ?_; rintro e w' ⟨rfl, n2, rfl⟩)
      go_ret2
      rw [HE.out]
      exact errsPost_one (below_drewN B1.out _)
    · rw [if_neg hq] at hE
      have HE := Lib.hid hE
      obtain ⟨q, hqq⟩ : ∃ q, q = fmul s2 L := ⟨_, rfl⟩
      rw [← hqq] at hq
      have HZ := Lib.hid hqq
      have z2 : ((q : Int) != (s3 : Int)) = true := by simp; omega
      clear hE hq hqq HV
      go_enter Tryd.func60, Tryd.ntmps60
      go_wp2_with fail
      refine (HQ.out _).mono ?_
      rintro e w' ⟨rfl, n1, rfl⟩
      have C1 : Hid (Box4 ((w.alloc (.cells #[.int .i64 s0, .int .i64 s1, .int .i64 s2, .int .i64 s3] 42)).drewN n1) w.heap.size s0 s1 s2 s3) := HC.out
      have B1 := Lib.hid (below_drewN (HB.out (.cells #[.int .i64 s0, .int .i64 s1, .int .i64 s2, .int .i64 s3] 42)) n1)
      generalize (w.alloc (.cells #[.int .i64 s0, .int .i64 s1, .int .i64 s2, .int .i64 s3] 42)).drewN n1 = W at *
      have HP := Lib.hid (fun n => fieldProduct_any s2 L (W.drewN n) ((HT.out.next B1.out).drewN n) h2 hL)
      rw [← HZ.out] at HP
      obtain ⟨_, c0, c1, c2, c3⟩ := C1.out
      clear HQ C1 HC HT
      go_wp2
      go_quiet ((go_at_call 53; with_reducible exact Calls.quiet_of (HP.out _)))
      go_wp2
      go_ret2
      rw [HE.out]
      exact ⟨rfl, below_drewN B1.out _⟩
/-- Whether four numbers are all 0. -/
def zero4 (a b c d : Nat) : Bool := decide (a = 0 ∧ b = 0 ∧ c = 0 ∧ d = 0)
theorem eq4_deep (d a b c e : Nat) (w : World) : (Op.equalIn (d + 1 + 1) 42 (.agg #[.int .i64 a, .int .i64 b, .int .i64 c, .int .i64 e]) (.agg #[.int .i64 0, .int .i64 0, .int .i64 0, .int .i64 0])).run Tryd.prog w = .ok (zero4 a b c e) w := by
  obtain ⟨i0, hi0, hz0, hz1, hz2⟩ := info_parts Tryd.infoInt
  have hp : ∀ (k : Nat) (xs : Array Value) (h : k < xs.size), (part 3 xs k).run Tryd.prog w = .ok xs[k] w := fun k xs h => by
    simp [part, isAgg, run_underlying Tryd.underlying3, h]
  have hq : ∀ x y : Int, (Op.equalIn (d + 1) 3 (.int .i64 x) (.int .i64 y)).run Tryd.prog w = .ok (x == y) w := fun x y => run_equalIn_int w d _ _ _ _ _ Tryd.underlying3
  rw [Op.equalIn]
  simp only [Sem.run_bind, run_underlying Tryd.underlying42, Result.andThen_ok, sizeOf, typeInfo, run_program, hi0, Sem.run_pure, hz1]
  by_cases ha : a = 0 <;> by_cases hb : b = 0 <;> by_cases hc : c = 0 <;> by_cases he : e = 0 <;> simp [zero4, hp, hq, List.range', ha, hb, hc, he]
theorem eq4_run (a b c e : Nat) (w : World) : (Op.equalIn 10000 42 (.agg #[.int .i64 a, .int .i64 b, .int .i64 c, .int .i64 e]) (.agg #[.int .i64 0, .int .i64 0, .int .i64 0, .int .i64 0])).run Tryd.prog w = .ok (zero4 a b c e) w := eq4_deep 9998 a b c e w
end Go.Proofs.YtkeeijkjemcbcaaDoor
