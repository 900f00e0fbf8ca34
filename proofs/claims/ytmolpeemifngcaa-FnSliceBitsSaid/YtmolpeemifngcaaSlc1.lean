/-
  What the decisions and the orders' modulations answer. No condition.
-/
import Derived.Test.YtmolpeemifngcaaSlcMath
import Derived.Test.YtmolpeemifngcaaPackBits
import Derived.Test.YtmolpeemifngcaaToInts
import Derived.Deep.RegionLaw
import Derived.Test.YtmolpeemifngcaaDraws
namespace Go.Proofs.Ytmolpeemifngcaa
open Go.RowKit

theorem decideBit_any (n : Int) (w : World) : Calls Try.prog 86 #[.int .i64 n] w fun e w' => e = .returned (.int .i64 (dec1 n : Nat)) ∧ ∃ m, w' = w.drewN m := by
  rcases dec1_cases n with ⟨h, e, _⟩ | ⟨h, e, _⟩
  · rw [e]
    clear e
    go_enter Try.func86, Try.ntmps86
    go_wp2
    go_ret
    exact ⟨rfl, 0, rfl⟩
  · rw [e]
    clear e
    go_enter Try.func86, Try.ntmps86
    go_wp2
    go_ret
    exact ⟨rfl, 0, rfl⟩
theorem decidePair_any (n : Int) (w : World) : Calls Try.prog 91 #[.int .i64 n] w fun e w' => e = .returned (.int .i64 (dec2 n : Nat)) ∧ ∃ m, w' = w.drewN m := by
  rcases dec2_cases n with ⟨h, e, _⟩ | ⟨⟨h1, h2⟩, e, _⟩ | ⟨⟨h1, h2, h3⟩, e, _⟩ | ⟨⟨h1, h2, h3⟩, e, _⟩
  · rw [e]
    clear e
    go_enter Try.func91, Try.ntmps91
    go_wp2
    go_ret
    exact ⟨rfl, 0, rfl⟩
  · rw [e]
    clear e
    go_enter Try.func91, Try.ntmps91
    go_wp2
    go_ret
    exact ⟨rfl, 0, rfl⟩
  · rw [e]
    clear e
    go_enter Try.func91, Try.ntmps91
    go_wp2
    go_ret
    exact ⟨rfl, 0, rfl⟩
  · rw [e]
    clear e
    go_enter Try.func91, Try.ntmps91
    go_wp2
    go_ret
    exact ⟨rfl, 0, rfl⟩
/-- The interface value of an order's modulation. -/
def modV (o : Nat) : Value := if o = 1 then .iface 86 (.agg #[]) else if o = 2 then .iface 87 (.agg #[]) else .iface 88 (.agg #[])
theorem modulationOf_one (w : World) : Calls Try.prog 49 #[.int .i64 1] w fun e w' => e = .returned (.tuple #[.iface 86 (.agg #[]), .bool true]) ∧ w = w' := by
  go_enter Try.func49, Try.ntmps49
  go_wp2
  go_ret2
  exact ⟨rfl, rfl⟩
theorem modulationOf_two (w : World) : Calls Try.prog 49 #[.int .i64 2] w fun e w' => e = .returned (.tuple #[.iface 87 (.agg #[]), .bool true]) ∧ w = w' := by
  go_enter Try.func49, Try.ntmps49
  go_wp2
  go_ret2
  exact ⟨rfl, rfl⟩
theorem modulationOf_four (w : World) : Calls Try.prog 49 #[.int .i64 4] w fun e w' => e = .returned (.tuple #[.iface 88 (.agg #[]), .bool true]) ∧ w = w' := by
  go_enter Try.func49, Try.ntmps49
  go_wp2
  go_ret2
  exact ⟨rfl, rfl⟩
theorem modulationOf_no (o : Int) (w : World) (h1 : o ≠ 1) (h2 : o ≠ 2) (h4 : o ≠ 4) : Calls Try.prog 49 #[.int .i64 o] w fun e w' => e = .returned (.tuple #[.nilIface, .bool false]) ∧ w = w' := by
  have z1 : (o == 1) = false := by simpa using h1
  have z2 : (o == 2) = false := by simpa using h2
  have z4 : (o == 4) = false := by simpa using h4
  clear h1 h2 h4
  go_enter Try.func49, Try.ntmps49
  go_wp2
  go_ret2
  exact ⟨rfl, rfl⟩
theorem decideOne_any (x y : Int) (w : World) : Calls Try.prog 84 #[.agg #[], .agg #[.int .i64 x, .int .i64 y]] w fun e w' => e = .returned (.int .i64 (decN 1 (x, y) : Nat)) ∧ Below w.heap.size w w' := by
  have HB := Lib.hid (fun o o' : Obj => (Below.refl w.heap.size w).alloc (Nat.le_refl _) o |>.alloc (by simp) o')
  have HE : Hid (decN 1 (x, y) = dec1 x) := by show decN 1 (x, y) = dec1 x; rfl
  go_enter Try.func84, Try.ntmps84
  go_wp2_with fail
  refine (decideBit_any x _).mono ?_
  rintro e w1 ⟨rfl, m, rfl⟩
  go_wp2
  go_ret
  rw [HE.out]
  exact ⟨rfl, below_drewN (HB.out _ _) m⟩
theorem or_low (u v : Nat) (hu : u < 4) (hv : v < 4) : bits .or .i64 ((u * 4 : Nat) : Int) (v : Int) = ((u * 4 + v : Nat) : Int) ∧ (v < 2 → bits .or .i64 ((u * 2 : Nat) : Int) (v : Int) = ((u * 2 + v : Nat) : Int)) := by
  match u, hu, v, hv with
  | 0, _, 0, _ | 0, _, 1, _ | 0, _, 2, _ | 0, _, 3, _ | 1, _, 0, _ | 1, _, 1, _ | 1, _, 2, _ | 1, _, 3, _ | 2, _, 0, _ | 2, _, 1, _ | 2, _, 2, _ | 2, _, 3, _ | 3, _, 0, _ | 3, _, 1, _ | 3, _, 2, _ | 3, _, 3, _ =>
    exact ⟨by decide +kernel, by decide +kernel⟩
set_option maxHeartbeats 1000000 in
theorem decideTwo_any (x y : Int) (w : World) : Calls Try.prog 87 #[.agg #[], .agg #[.int .i64 x, .int .i64 y]] w fun e w' => e = .returned (.int .i64 (decN 2 (x, y) : Nat)) ∧ Below w.heap.size w w' := by
  have HB := Lib.hid (fun o o' : Obj => (Below.refl w.heap.size w).alloc (Nat.le_refl _) o |>.alloc (by simp) o')
  obtain ⟨u, hu⟩ : ∃ u, u = dec1 x := ⟨_, rfl⟩
  obtain ⟨v, hv⟩ : ∃ v, v = dec1 y := ⟨_, rfl⟩
  have hu2 : u < 2 := by rw [hu]; exact dec1_lt x
  have hv2 : v < 2 := by rw [hv]; exact dec1_lt y
  have HE : Hid (decN 2 (x, y) = u * 2 + v) := by show decN 2 (x, y) = u * 2 + v; rw [hu, hv]; rfl
  have HU := Lib.hid (fun W => decideBit_any x W)
  have HV := Lib.hid (fun W => decideBit_any y W)
  rw [← hu] at HU
  rw [← hv] at HV
  obtain ⟨S, hS⟩ : ∃ S, S = u * 2 := ⟨_, rfl⟩
  have r1 : IntKind.i64.wrap ((u : Int) * 2) = (S : Int) := by rw [IntKind.wrap_i64, hS]; omega
  have r1' : IntKind.i64.wrap ((u : Int) * 2 ^ 1) = (S : Int) := by rw [Int.pow_one]; exact r1
  have r2 : bits .or .i64 (S : Int) (v : Int) = ((u * 2 + v : Nat) : Int) := by rw [hS]; exact (or_low u v (by omega) (by omega)).2 hv2
  obtain ⟨D, hD⟩ : ∃ D, D = u * 2 + v := ⟨_, rfl⟩
  rw [← hD] at r2 HE
  rw [HE.out]
  clear hu hv hS hD hu2 hv2 HE
  go_enter Try.func87, Try.ntmps87
  go_wp2
  go_quiet (first
    | (go_at_call 86; with_reducible exact Calls.quiet_of (HU.out _))
    | (go_at_call 86; with_reducible exact Calls.quiet_of (HV.out _)))
  go_wp2
  go_ret
  exact ⟨rfl, below_drewN (HB.out _ _) _⟩
set_option maxHeartbeats 1000000 in
theorem decideFour_any (x y : Int) (w : World) : Calls Try.prog 89 #[.agg #[], .agg #[.int .i64 x, .int .i64 y]] w fun e w' => e = .returned (.int .i64 (decN 4 (x, y) : Nat)) ∧ Below w.heap.size w w' := by
  have HB := Lib.hid (fun o o' : Obj => (Below.refl w.heap.size w).alloc (Nat.le_refl _) o |>.alloc (by simp) o')
  obtain ⟨u, hu⟩ : ∃ u, u = dec2 x := ⟨_, rfl⟩
  obtain ⟨v, hv⟩ : ∃ v, v = dec2 y := ⟨_, rfl⟩
  have hu2 : u < 4 := by rw [hu]; exact dec2_lt x
  have hv2 : v < 4 := by rw [hv]; exact dec2_lt y
  have HE : Hid (decN 4 (x, y) = u * 4 + v) := by show decN 4 (x, y) = u * 4 + v; rw [hu, hv]; rfl
  have HU := Lib.hid (fun W => decidePair_any x W)
  have HV := Lib.hid (fun W => decidePair_any y W)
  rw [← hu] at HU
  rw [← hv] at HV
  obtain ⟨S, hS⟩ : ∃ S, S = u * 4 := ⟨_, rfl⟩
  have r1 : IntKind.i64.wrap ((u : Int) * 4) = (S : Int) := by rw [IntKind.wrap_i64, hS]; omega
  have r1' : IntKind.i64.wrap ((u : Int) * 2 ^ 2) = (S : Int) := r1
  have r2 : bits .or .i64 (S : Int) (v : Int) = ((u * 4 + v : Nat) : Int) := by rw [hS]; exact (or_low u v hu2 hv2).1
  obtain ⟨D, hD⟩ : ∃ D, D = u * 4 + v := ⟨_, rfl⟩
  rw [← hD] at r2 HE
  rw [HE.out]
  clear hu hv hS hD hu2 hv2 HE
  go_enter Try.func89, Try.ntmps89
  go_wp2
  go_quiet (first
    | (go_at_call 91; with_reducible exact Calls.quiet_of (HU.out _))
    | (go_at_call 91; with_reducible exact Calls.quiet_of (HV.out _)))
  go_wp2
  go_ret
  exact ⟨rfl, below_drewN (HB.out _ _) _⟩
end Go.Proofs.Ytmolpeemifngcaa
