/-
  What pairDistance and survivorOf answer. Conditions: bits; the program's two tables of the stream code lie in their variables; the survivors behind lie in memory.
-/
import Derived.Test.YtnjjblcigcblhaaDoorStrTabs
import Derived.Test.YtnjjblcigcblhaaDoorStrList
import Derived.Test.YtnjjblcigcblhaaDoorOne
import Derived.OwnWalk
import Derived.Deep.RegionHeld3
namespace Go.Proofs.YtnjjblcigcblhaaDoor
open Go.RowKit

/-- Two bits by value. -/
def arr2 (a b : Nat) : Value := .agg #[.int .i64 a, .int .i64 b]
theorem bit_xor {a b : Nat} (ha : a < 2) (hb : b < 2) : bits .xor .i64 (a : Int) (b : Int) = ((a ^^^ b : Nat) : Int) := by
  obtain rfl | rfl : a = 0 ∨ a = 1 := by omega
  · obtain rfl | rfl : b = 0 ∨ b = 1 := by omega
    · exact xor00
    · exact xor01
  · obtain rfl | rfl : b = 0 ∨ b = 1 := by omega
    · exact xor10
    · exact xor11
theorem below_new (w : World) (o : Obj) : Below w.heap.size w (w.alloc o) := (Below.refl _ _).alloc (Nat.le_refl _) o
/-- The two arrays of the call: their cells. -/
def TwoArr (w W : World) (a0 a1 b0 b1 : Nat) : Prop := W.cell? ⟨w.heap.size, 0, none⟩ = some (.int .i64 a0) ∧ W.cell? ⟨w.heap.size, 1, none⟩ = some (.int .i64 a1) ∧
  W.cell? ⟨w.heap.size + 1, 0, none⟩ = some (.int .i64 b0) ∧ W.cell? ⟨w.heap.size + 1, 1, none⟩ = some (.int .i64 b1) ∧ Below w.heap.size w W
theorem twoArr_new (w : World) (a0 a1 b0 b1 : Nat) (t t' : TypeId) : TwoArr w ((w.alloc (.cells #[.int .i64 a0, .int .i64 a1] t)).alloc (.cells #[.int .i64 b0, .int .i64 b1] t')) a0 a1 b0 b1 :=
  ⟨cell_of_row _ _ 0 _ _ _ (heap_prev2 _ _ _), cell_of_row _ _ 1 _ _ _ (heap_prev2 _ _ _), cell_of_row _ _ 0 _ _ _ (heap_last2 _ _ _), cell_of_row _ _ 1 _ _ _ (heap_last2 _ _ _), (below_new w _).alloc (by simp) _⟩
set_option maxHeartbeats 400000 in
theorem pairDistance_any (a0 a1 b0 b1 d : Nat) (w : World) (h0 : a0 < 2) (h1 : a1 < 2) (g0 : b0 < 2) (g1 : b1 < 2) (hd : d = (a0 ^^^ b0) + (a1 ^^^ b1)) :
    Calls Tryd.prog 58 #[.agg #[.int .i64 a0, .int .i64 a1], .agg #[.int .i64 b0, .int .i64 b1]] w fun e w' => e = .returned (.int .i64 (d : Int)) ∧ Below w.heap.size w w' := by
  have x0 := bit_xor h0 g0
  have x1 := bit_xor h1 g1
  have l0 := xor_bit h0 g0
  have l1 := xor_bit h1 g1
  generalize a0 ^^^ b0 = u at *
  generalize a1 ^^^ b1 = v at *
  have T0 := Lib.hid (twoArr_new w a0 a1 b0 b1 43 43)
  have HD := Lib.hid hd
  clear hd
  go_enter Tryd.func58, Tryd.ntmps58
  go_wp2
  generalize (w.alloc (.cells #[.int .i64 a0, .int .i64 a1] 43)).alloc (.cells #[.int .i64 b0, .int .i64 b1] 43) = W at *
  go_loopw [5, 7] (fun s i wr => ∃ k n : Nat, k ≤ 2 ∧ i = .int .i64 k ∧ s = .int .i64 ((if k = 0 then 0 else if k = 1 then u else u + v : Nat) : Int) ∧ wr = W.drewN n) (fun _ i _ => 2 - (intOf i).toNat)
  case atStart => exact ⟨0, 0, by omega, rfl, rfl, rfl⟩
  case round =>
    obtain ⟨k, n, hk, rfl, rfl, rfl⟩ := hrel
    obtain ⟨c0, c1, c2, c3, _⟩ := T0.out
    have hk3 : k = 0 ∨ k = 1 ∨ k = 2 := by omega
    rcases hk3 with rfl | rfl | rfl
    · go_wp2
      go_quiet (fail)
      go_wp2
      go_roundw
      case rel => exact ⟨1, _, by omega, rfl, by simp, rfl⟩
      case measure => simp [intOf]
    · go_wp2
      go_quiet (fail)
      go_wp2
      go_roundw
      case rel => exact ⟨2, _, by omega, rfl, by simp, rfl⟩
      case measure => simp [intOf]
    · go_wp2
      go_ret
      exact ⟨ret_int (by rw [HD.out]), below_drewN T0.out.2.2.2.2 n⟩

/-- A survivor lies in memory: its bits, linked, and its distance. -/
def Node (w : World) : Nat → Nat → List Nat → Prop
  | b, c, [] => b < w.heap.size ∧ w.cell? ⟨b, 1, none⟩ = some (.int .i64 c)
  | b, c, x :: l => (b < w.heap.size ∧ w.cell? ⟨b, 1, none⟩ = some (.int .i64 c)) ∧ w.cell? ⟨b, 0, none⟩ = some (.int .i64 x) ∧ ∃ b' c', w.cell? ⟨b, 2, none⟩ = some (.pointer (some ⟨b', 0, none⟩)) ∧ Node w b' c' l
def SvAt (w : World) (q : Option Addr) : Option Surv → Prop
  | none => q = none
  | some p => ∃ b, q = some ⟨b, 0, none⟩ ∧ Node w b p.1 p.2
theorem Node.head {w : World} {b c : Nat} {l : List Nat} (h : Node w b c l) : b < w.heap.size ∧ w.cell? ⟨b, 1, none⟩ = some (.int .i64 c) := by
  cases l with
  | nil => exact h
  | cons x l => exact h.1
theorem Node.next {w w' : World} (hb : Below w.heap.size w w') : ∀ {l : List Nat} {b c : Nat}, Node w b c l → Node w' b c l
  | [], _, _, h => ⟨Nat.lt_of_lt_of_le h.1 hb.size, (hb.cell h.1).trans h.2⟩
  | _ :: _, _, _, h => by
    obtain ⟨h1, h2, b', c', h3, h4⟩ := h
    exact ⟨⟨Nat.lt_of_lt_of_le h1.1 hb.size, (hb.cell h1.1).trans h1.2⟩, (hb.cell h1.1).trans h2, b', c', (hb.cell h1.1).trans h3, Node.next hb h4⟩
theorem SvAt.next {w w' : World} {q : Option Addr} {o : Option Surv} (h : SvAt w q o) (hb : Below w.heap.size w w') : SvAt w' q o := by
  cases o with
  | none => exact h
  | some p =>
    obtain ⟨b, e, hn⟩ := h
    exact ⟨b, e, hn.next hb⟩
theorem SvAt.new {w W : World} {b x c c' : Nat} {l : List Nat} {t : TypeId} (h : Node w b c' l) (hW : W = w.alloc (.cells #[.int .i64 x, .int .i64 c, .pointer (some ⟨b, 0, none⟩)] t)) : SvAt W (some ⟨w.heap.size, 0, none⟩) (some (c, x :: l)) := by
  subst hW
  exact ⟨_, rfl, ⟨by simp, cell_of_row _ _ 1 _ _ _ (heap_alloc_last _ _)⟩, cell_of_row _ _ 0 _ _ _ (heap_alloc_last _ _), b, c', cell_of_row _ _ 2 _ _ _ (heap_alloc_last _ _), h.next (below_new _ _)⟩
/-- What a bit of a state adds, and the survivor of a state out of those behind it. -/
def dN (s x r0 r1 : Nat) : Nat := (prN s x 0 ^^^ r0) + (prN s x 1 ^^^ r1)
def accOf (s r0 r1 : Nat) (f : Nat → Option Surv) : Nat → Option Surv
  | 0 => none
  | x + 1 => sPick (accOf s r0 r1 f x) (sExt (dN s x r0 r1) x (f (nxN s x)))
theorem Tryd.infoTwo : (Tryd.prog.info? 43).map (·.size) = some 2 := by kernel_rfl
theorem index22 (a b c d : Value) (w : World) : (Instr.index 44 (.agg #[a, b, c, d]) (.int .i64 0)).run Tryd.prog w = .ok (.agg #[a, b]) w ∧ (Instr.index 44 (.agg #[a, b, c, d]) (.int .i64 1)).run Tryd.prog w = .ok (.agg #[c, d]) w := by
  obtain ⟨i0, hi0, hz0⟩ := Option.map_eq_some_iff.1 Tryd.infoTwo
  constructor <;> simp [Instr.index, asIntOf, run_underlying Tryd.underlying44, sizeOf, typeInfo, hi0, hz0, part, isAgg, run_underlying Tryd.underlying43]
/-- The two arrays of the call lie where they lay, what lay behind them too. -/
def RS (w W : World) (r0 r1 : Nat) (pp : Nat → Option Addr) (f : Nat → Option Surv) : Prop :=
  (StrTabs W ∧ (∀ i, i < 4 → SvAt W (pp i) (f i)) ∧ W.cell? ⟨w.heap.size, 0, none⟩ = some (.int .i64 r0) ∧ W.cell? ⟨w.heap.size, 1, none⟩ = some (.int .i64 r1) ∧ ∀ i, i < 4 → W.cell? ⟨w.heap.size + 1, i, none⟩ = some (.pointer (pp i))) ∧
  w.heap.size + 2 ≤ W.heap.size ∧ Below w.heap.size w W
theorem RS.next {w W W' : World} {r0 r1 : Nat} {pp : Nat → Option Addr} {f : Nat → Option Surv} (h : RS w W r0 r1 pp f) (hb : Below W.heap.size W W') : RS w W' r0 r1 pp f := by
  obtain ⟨⟨h1, h2, h3, h4, h5⟩, h6, h7⟩ := h
  have c : ∀ b o, b < w.heap.size + 2 → W'.cell? ⟨b, o, none⟩ = W.cell? ⟨b, o, none⟩ := fun b o hlt => hb.cell (p := ⟨b, o, none⟩) (show b < W.heap.size by omega)
  exact ⟨⟨h1.next hb, fun i hi => (h2 i hi).next hb, (c _ _ (by omega)).trans h3, (c _ _ (by omega)).trans h4, fun i hi => (c _ _ (by omega)).trans (h5 i hi)⟩, Nat.le_trans h6 hb.size, Below.next h7 (Nat.le_refl _) hb⟩
theorem RS.new {w : World} {r0 r1 : Nat} {pp : Nat → Option Addr} {f : Nat → Option Surv} {t t' : TypeId} (hT : StrTabs w) (hf : ∀ i, i < 4 → SvAt w (pp i) (f i)) :
    RS w ((w.alloc (.cells #[.int .i64 r0, .int .i64 r1] t)).alloc (.cells #[.pointer (pp 0), .pointer (pp 1), .pointer (pp 2), .pointer (pp 3)] t')) r0 r1 pp f := by
  have hb : Below w.heap.size w ((w.alloc (.cells #[.int .i64 r0, .int .i64 r1] t)).alloc (.cells #[.pointer (pp 0), .pointer (pp 1), .pointer (pp 2), .pointer (pp 3)] t')) := (below_new w _).alloc (by simp) _
  refine ⟨⟨hT.next hb, fun i hi => (hf i hi).next hb, cell_of_row _ _ 0 _ _ _ (heap_prev2 _ _ _), cell_of_row _ _ 1 _ _ _ (heap_prev2 _ _ _), fun i hi => ?_⟩, by simp, hb⟩
  match i, hi with
  | 0, _ | 1, _ | 2, _ | 3, _ => exact cell_of_row _ _ _ _ _ _ (heap_last2 _ _ _)
/-- What a drawn region of the round reads, and what is kept beside it. -/
def DS7 (w W : World) (r0 r1 : Nat) (pp : Nat → Option Addr) (f : Nat → Option Surv) (q : Option Addr) (o : Option Surv) (b c : Nat) (l : List Nat) (g a0 a1 : Nat) : Prop :=
  RS w W r0 r1 pp f ∧ SvAt W q o ∧ Node W b c l ∧ g < W.heap.size ∧ W.cell? ⟨g, 0, none⟩ = some (.int .i64 a0) ∧ W.cell? ⟨g, 1, none⟩ = some (.int .i64 a1)
section
variable {w W W' : World} {r0 r1 : Nat} {pp : Nat → Option Addr} {f : Nat → Option Surv} {q : Option Addr} {o : Option Surv} {b c : Nat} {l : List Nat} {g a0 a1 : Nat}
theorem DS7.next (h : DS7 w W r0 r1 pp f q o b c l g a0 a1) (hb : Below W.heap.size W W') : DS7 w W' r0 r1 pp f q o b c l g a0 a1 :=
  ⟨h.1.next hb, h.2.1.next hb, h.2.2.1.next hb, Nat.lt_of_lt_of_le h.2.2.2.1 hb.size, (hb.cell h.2.2.2.1).trans h.2.2.2.2.1, (hb.cell h.2.2.2.1).trans h.2.2.2.2.2⟩
def DS7C (w W : World) (r0 r1 : Nat) (pp : Nat → Option Addr) (f : Nat → Option Surv) (q : Option Addr) (o : Option Surv) (b c : Nat) (l : List Nat) (g a0 a1 : Nat) : Prop := Hid (DS7 w W r0 r1 pp f q o b c l g a0 a1)
theorem DS7.all (h : DS7 w W r0 r1 pp f q o b c l g a0 a1) : DS7C w W r0 r1 pp f q o b c l g a0 a1 ∧ W.cell? ⟨b, 1, none⟩ = some (.int .i64 c) ∧ W.cell? ⟨g, 0, none⟩ = some (.int .i64 a0) ∧ W.cell? ⟨g, 1, none⟩ = some (.int .i64 a1) ∧
    W.cell? ⟨w.heap.size, 0, none⟩ = some (.int .i64 r0) ∧ W.cell? ⟨w.heap.size, 1, none⟩ = some (.int .i64 r1) := ⟨h, h.2.2.1.head.2, h.2.2.2.2.1, h.2.2.2.2.2, h.1.1.2.2.1, h.1.1.2.2.2.1⟩
theorem DS7.all_next {X : Prop} (hb : Below W.heap.size W W') (h : DS7C w W r0 r1 pp f q o b c l g a0 a1 ∧ X) : DS7C w W' r0 r1 pp f q o b c l g a0 a1 ∧ W'.cell? ⟨b, 1, none⟩ = some (.int .i64 c) ∧ W'.cell? ⟨g, 0, none⟩ = some (.int .i64 a0) ∧ W'.cell? ⟨g, 1, none⟩ = some (.int .i64 a1) ∧
    W'.cell? ⟨w.heap.size, 0, none⟩ = some (.int .i64 r0) ∧ W'.cell? ⟨w.heap.size, 1, none⟩ = some (.int .i64 r1) := ((Hid.out h.1).next hb).all
theorem DS7C.back {X : Prop} (h : DS7C w W r0 r1 pp f q o b c l g a0 a1 ∧ X) : DS7 w W r0 r1 pp f q o b c l g a0 a1 := Hid.out h.1
end
set_option maxHeartbeats 1000000 in
theorem survivorOf_any (s r0 r1 : Nat) (pp : Nat → Option Addr) (f : Nat → Option Surv) (w : World) (hs : s < 4) (h0 : r0 < 2) (h1 : r1 < 2) (hT : StrTabs w)
    (hf : ∀ i, i < 4 → SvAt w (pp i) (f i)) (hc : ∀ t p, t < 4 → f t = some p → p.1 ≤ 1000) :
    Calls Tryd.prog 54 #[.int .i64 s, .agg #[.int .i64 r0, .int .i64 r1], .agg #[.pointer (pp 0), .pointer (pp 1), .pointer (pp 2), .pointer (pp 3)]] w fun e w' => ∃ q, e = .returned (.pointer q) ∧ SvAt w' q (accOf s r0 r1 f 2) ∧ Below w.heap.size w w' := by
  have R0 := Lib.hid (RS.new (r0 := r0) (r1 := r1) (t := 43) (t' := 76) hT hf)
  have HP := Lib.hid (fun x j (hx : x < 2) (hj : j < 2) => R0.out.1.1.1.2 s x j hs hx hj)
  obtain ⟨a0, ha0⟩ : ∃ n, n = prN s 0 0 := ⟨_, rfl⟩
  obtain ⟨a1, ha1⟩ : ∃ n, n = prN s 0 1 := ⟨_, rfl⟩
  obtain ⟨b0, hb0⟩ : ∃ n, n = prN s 1 0 := ⟨_, rfl⟩
  obtain ⟨b1, hb1⟩ : ∃ n, n = prN s 1 1 := ⟨_, rfl⟩
  have t0 := HP.out 0 0 (by omega) (by omega)
  have t1 := HP.out 0 1 (by omega) (by omega)
  have t2 := HP.out 1 0 (by omega) (by omega)
  have t3 := HP.out 1 1 (by omega) (by omega)
  rw [← ha0] at t0
  rw [← ha1] at t1
  rw [← hb0] at t2
  rw [← hb1] at t3
  simp only [Nat.zero_mul, Nat.one_mul, Nat.add_zero] at t0 t1 t2 t3
  have hA : True ∧ a0 < 2 ∧ a1 < 2 ∧ b0 < 2 ∧ b1 < 2 := ⟨trivial, by rw [ha0]; exact prN_lt hs (by omega), by rw [ha1]; exact prN_lt hs (by omega), by rw [hb0]; exact prN_lt hs (by omega), by rw [hb1]; exact prN_lt hs (by omega)⟩
  have HA := Lib.hid (And.intro ha0 (And.intro ha1 (And.intro hb0 hb1)))
  clear ha0 ha1 hb0 hb1 HP hT hf
  go_enter Tryd.func54, Tryd.ntmps54
  go_wp2
  generalize (w.alloc (.cells #[.int .i64 r0, .int .i64 r1] 43)).alloc (.cells #[.pointer (pp 0), .pointer (pp 1), .pointer (pp 2), .pointer (pp 3)] 76) = W0 at *
  clear t0 t1 t2 t3
  go_loopw [7, 15] (fun best i wr => ∃ k q, k ≤ 2 ∧ i = .int .i64 (k : Nat) ∧ best = .pointer q ∧ SvAt wr q (accOf s r0 r1 f k) ∧ RS w wr r0 r1 pp f) (fun _ i _ => 2 - (intOf i).toNat)
  case atStart => exact ⟨0, none, by omega, rfl, rfl, rfl, R0.out⟩
  case round =>
    obtain ⟨k, q, hk, rfl, rfl, hq, hr⟩ := hrel
    have HQ := Lib.hid hq
    have HR := Lib.hid hr
    clear hq hr
    have hk3 : k = 0 ∨ k = 1 ∨ k = 2 := by omega
    rcases hk3 with rfl | rfl | rfl
    · have i22 := fun W => (index22 (.int .i64 a0) (.int .i64 a1) (.int .i64 b0) (.int .i64 b1) W).1
      obtain ⟨n, hn⟩ : ∃ n, n = nxN s 0 := ⟨_, rfl⟩
      have hn4 : n < 4 := by rw [hn]; exact nxN_lt hs (by omega)
      have R1 := Lib.hid (HR.out.next (below_new wr (.cells #[.int .i64 a0, .int .i64 a1] 43)))
      have cN : (wr.alloc (.cells #[.int .i64 a0, .int .i64 a1] 43)).cell? ⟨1, s * 2, none⟩ = some (.int .i64 (n : Int)) := by rw [hn]; exact R1.out.1.1.2.2 s 0 hs (by omega)
      have cP : (wr.alloc (.cells #[.int .i64 a0, .int .i64 a1] 43)).cell? ⟨w.heap.size + 1, n, none⟩ = some (.pointer (pp n)) := R1.out.1.2.2.2.2 n hn4
      have hv := HR.out.1.2.1 n hn4
      have HN := Lib.hid hn
      clear hn
      cases e : f n with
      | none =>
        rw [e] at hv
        have hpn : pp n = none := hv
        rw [hpn] at cP
        have HB : Hid (accOf s r0 r1 f 0 = accOf s r0 r1 f (0 + 1)) := by
          show _ = sPick (accOf s r0 r1 f 0) (sExt (dN s 0 r0 r1) 0 (f (nxN s 0)))
          rw [← HN.out, e]
          cases accOf s r0 r1 f 0 <;> rfl
        clear hpn hv e
        go_wp2
        go_roundw
        case rel => exact ⟨0 + 1, q, by omega, rfl, rfl, by rw [← HB.out]; exact HQ.out.next (below_new wr _), R1.out⟩
        case measure => simp [intOf]
      | some p =>
        obtain ⟨c, l⟩ := p
        rw [e] at hv
        obtain ⟨b, hpn, hnode⟩ := hv
        rw [hpn] at cP
        have hc1000 : c ≤ 1000 := hc n (c, l) hn4 e
        obtain ⟨d, hd⟩ : ∃ d, d = (a0 ^^^ r0) + (a1 ^^^ r1) := ⟨_, rfl⟩
        have hd2 : d ≤ 2 := by
          have k1 := xor_bit hA.2.1 h0
          have k2 := xor_bit hA.2.2.1 h1
          omega
        obtain ⟨m, hm⟩ : ∃ m, m = c + d := ⟨_, rfl⟩
        have HB : Hid (accOf s r0 r1 f (0 + 1) = sPick (accOf s r0 r1 f 0) (some (m, 0 :: l))) := by
          show sPick (accOf s r0 r1 f 0) (sExt (dN s 0 r0 r1) 0 (f (nxN s 0))) = _
          rw [← HN.out, e, hm, hd]
          obtain ⟨z0, z1, z2, z3⟩ := HA.out
          rw [z0, z1]
          rfl
        have E1 : Hid (DS7 w (wr.alloc (.cells #[.int .i64 a0, .int .i64 a1] 43)) r0 r1 pp f q (accOf s r0 r1 f 0) b c l wr.heap.size a0 a1) :=
          ⟨R1.out, HQ.out.next (below_new wr _), hnode.next (below_new wr _), by simp, cell_of_row _ _ 0 _ _ _ (heap_alloc_last _ _), cell_of_row _ _ 1 _ _ _ (heap_alloc_last _ _)⟩
        have HPD := Lib.hid (fun W => pairDistance_any a0 a1 r0 r1 d W hA.2.1 hA.2.2.1 h0 h1 hd)
        have hwr : IntKind.i64.wrap ((c : Int) + (d : Int)) = (m : Int) := by rw [IntKind.wrap_i64]; omega
        clear hpn hnode e hd hm R1
        go_wp2_with fail
        generalize wr.alloc (.cells #[.int .i64 a0, .int .i64 a1] 43) = W1 at *
        obtain ⟨hds, hcc, hg0, hg1, hr0, hr1⟩ := E1.out.all
        go_region_held3 (fun w' => DS7C w w' r0 r1 pp f q (accOf s r0 r1 f 0) b c l wr.heap.size a0 a1 ∧ w'.cell? ⟨b, 1, none⟩ = some (.int .i64 c) ∧ w'.cell? ⟨wr.heap.size, 0, none⟩ = some (.int .i64 a0) ∧ w'.cell? ⟨wr.heap.size, 1, none⟩ = some (.int .i64 a1) ∧
            w'.cell? ⟨w.heap.size, 0, none⟩ = some (.int .i64 r0) ∧ w'.cell? ⟨w.heap.size, 1, none⟩ = some (.int .i64 r1))
          (first
            | exact DS7.all (DS7.next E1.out (below_drewN (Below.refl _ _) 1))
            | exact DS7.all_next (by assumption) (by assumption)
            | fail)
          (first
            | (go_at_call 58; (with_reducible refine (HPD.out _).mono ?_); rintro e w' ⟨rfl, hb⟩)
            | fail)
        all_goals
          have D2 : DS7 w w' r0 r1 pp f q (accOf s r0 r1 f 0) b c l wr.heap.size a0 a1 := DS7C.back (by assumption)
          have D3 := Lib.hid D2
          have HPC := Lib.hid HPD
          clear hds hcc hg0 hg1 hr0 hr1 hwr
          have hq0 : q = none := HQ.out
          subst hq0
          go_wp2
          go_roundw
          case rel => exact ⟨0 + 1, _, by omega, rfl, rfl, by rw [HB.out]; exact SvAt.new D3.out.2.2.1 rfl, D3.out.1.next (below_new w' _)⟩
          case measure => simp [intOf]
    · have i22 := fun W => (index22 (.int .i64 a0) (.int .i64 a1) (.int .i64 b0) (.int .i64 b1) W).2
      obtain ⟨n, hn⟩ : ∃ n, n = nxN s 1 := ⟨_, rfl⟩
      have hn4 : n < 4 := by rw [hn]; exact nxN_lt hs (by omega)
      have R1 := Lib.hid (HR.out.next (below_new wr (.cells #[.int .i64 b0, .int .i64 b1] 43)))
      have cN : (wr.alloc (.cells #[.int .i64 b0, .int .i64 b1] 43)).cell? ⟨1, s * 2 + 1, none⟩ = some (.int .i64 (n : Int)) := by rw [hn]; exact R1.out.1.1.2.2 s 1 hs (by omega)
      have cP : (wr.alloc (.cells #[.int .i64 b0, .int .i64 b1] 43)).cell? ⟨w.heap.size + 1, n, none⟩ = some (.pointer (pp n)) := R1.out.1.2.2.2.2 n hn4
      have hv := HR.out.1.2.1 n hn4
      have HN := Lib.hid hn
      clear hn
      cases e : f n with
      | none =>
        rw [e] at hv
        have hpn : pp n = none := hv
        rw [hpn] at cP
        have HB : Hid (accOf s r0 r1 f 1 = accOf s r0 r1 f (1 + 1)) := by
          show _ = sPick (accOf s r0 r1 f 1) (sExt (dN s 1 r0 r1) 1 (f (nxN s 1)))
          rw [← HN.out, e]
          cases accOf s r0 r1 f 1 <;> rfl
        clear hpn hv e
        go_wp2
        go_roundw
        case rel => exact ⟨1 + 1, q, by omega, rfl, rfl, by rw [← HB.out]; exact HQ.out.next (below_new wr _), R1.out⟩
        case measure => simp [intOf]
      | some p =>
        obtain ⟨c, l⟩ := p
        rw [e] at hv
        obtain ⟨b, hpn, hnode⟩ := hv
        rw [hpn] at cP
        have hc1000 : c ≤ 1000 := hc n (c, l) hn4 e
        obtain ⟨d, hd⟩ : ∃ d, d = (b0 ^^^ r0) + (b1 ^^^ r1) := ⟨_, rfl⟩
        have hd2 : d ≤ 2 := by
          have k1 := xor_bit hA.2.2.2.1 h0
          have k2 := xor_bit hA.2.2.2.2 h1
          omega
        obtain ⟨m, hm⟩ : ∃ m, m = c + d := ⟨_, rfl⟩
        have HB : Hid (accOf s r0 r1 f (1 + 1) = sPick (accOf s r0 r1 f 1) (some (m, 1 :: l))) := by
          show sPick (accOf s r0 r1 f 1) (sExt (dN s 1 r0 r1) 1 (f (nxN s 1))) = _
          rw [← HN.out, e, hm, hd]
          obtain ⟨z0, z1, z2, z3⟩ := HA.out
          rw [z2, z3]
          rfl
        have E1 : Hid (DS7 w (wr.alloc (.cells #[.int .i64 b0, .int .i64 b1] 43)) r0 r1 pp f q (accOf s r0 r1 f 1) b c l wr.heap.size b0 b1) :=
          ⟨R1.out, HQ.out.next (below_new wr _), hnode.next (below_new wr _), by simp, cell_of_row _ _ 0 _ _ _ (heap_alloc_last _ _), cell_of_row _ _ 1 _ _ _ (heap_alloc_last _ _)⟩
        have HPD := Lib.hid (fun W => pairDistance_any b0 b1 r0 r1 d W hA.2.2.2.1 hA.2.2.2.2 h0 h1 hd)
        have hwr : IntKind.i64.wrap ((c : Int) + (d : Int)) = (m : Int) := by rw [IntKind.wrap_i64]; omega
        clear hpn hnode e hd hm R1
        go_wp2_with fail
        generalize wr.alloc (.cells #[.int .i64 b0, .int .i64 b1] 43) = W1 at *
        obtain ⟨hds, hcc, hg0, hg1, hr0, hr1⟩ := E1.out.all
        go_region_held3 (fun w' => DS7C w w' r0 r1 pp f q (accOf s r0 r1 f 1) b c l wr.heap.size b0 b1 ∧ w'.cell? ⟨b, 1, none⟩ = some (.int .i64 c) ∧ w'.cell? ⟨wr.heap.size, 0, none⟩ = some (.int .i64 b0) ∧ w'.cell? ⟨wr.heap.size, 1, none⟩ = some (.int .i64 b1) ∧
            w'.cell? ⟨w.heap.size, 0, none⟩ = some (.int .i64 r0) ∧ w'.cell? ⟨w.heap.size, 1, none⟩ = some (.int .i64 r1))
          (first
            | exact DS7.all (DS7.next E1.out (below_drewN (Below.refl _ _) 1))
            | exact DS7.all_next (by assumption) (by assumption)
            | fail)
          (first
            | (go_at_call 58; (with_reducible refine (HPD.out _).mono ?_); rintro e w' ⟨rfl, hb⟩)
            | fail)
        all_goals
          have D2 : DS7 w w' r0 r1 pp f q (accOf s r0 r1 f 1) b c l wr.heap.size b0 b1 := DS7C.back (by assumption)
          have D3 := Lib.hid D2
          have HPC := Lib.hid HPD
          clear hds hcc hg0 hg1 hr0 hr1 hwr
          have hqa := D2.2.1
          cases ea : accOf s r0 r1 f 1 with
          | none =>
            rw [ea] at hqa HB
            have hq0 : q = none := hqa
            subst hq0
            clear hqa ea
            go_wp2
            go_roundw
            case rel => exact ⟨1 + 1, _, by omega, rfl, rfl, by rw [HB.out]; exact SvAt.new D3.out.2.2.1 rfl, D3.out.1.next (below_new w' _)⟩
            case measure => simp [intOf]
          | some o =>
            obtain ⟨c', l'⟩ := o
            rw [ea] at hqa HB
            obtain ⟨b', hq', hn'⟩ := hqa
            have hc' : w'.cell? ⟨b', 1, none⟩ = some (.int .i64 (c' : Int)) := hn'.head.2
            have HS := Lib.hid hn'
            clear hn' ea
            subst hq'
            by_cases hlt : m < c'
            · have HC : Hid (accOf s r0 r1 f (1 + 1) = some (m, 1 :: l)) := by
                show accOf s r0 r1 f (1 + 1) = _
                rw [HB.out, sPick, if_pos hlt]
              go_wp2
              go_roundw
              case rel => exact ⟨1 + 1, _, by omega, rfl, rfl, by rw [HC.out]; exact SvAt.new D3.out.2.2.1 rfl, D3.out.1.next (below_new w' _)⟩
              case measure => simp [intOf]
            · have HC : Hid (accOf s r0 r1 f (1 + 1) = some (c', l')) := by
                show accOf s r0 r1 f (1 + 1) = _
                rw [HB.out, sPick, if_neg hlt]
              go_wp2
              go_roundw
              case rel => exact ⟨1 + 1, some ⟨b', 0, none⟩, by omega, rfl, rfl, by rw [HC.out]; exact ⟨b', rfl, HS.out⟩, D3.out.1⟩
              case measure => simp [intOf]
    · clear R0
      go_wp2
      go_ret
      exact ⟨q, rfl, HQ.out, HR.out.2.2⟩
end Go.Proofs.YtnjjblcigcblhaaDoor
