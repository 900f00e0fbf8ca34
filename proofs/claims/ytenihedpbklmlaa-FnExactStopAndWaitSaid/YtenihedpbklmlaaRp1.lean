/-
  What a slice of Booleans holds in a world; whether a transmission is marked; whether the numbers of messages and the window are valid; and the models of these. Conditions: a list that can be read; a transmission that is a natural number.
-/
import Derived.Test.YtenihedpbklmlaaRpMath
import Derived.Test.YtenihedpbklmlaaOne
import Derived.Test.YtenihedpbklmlaaWs1
namespace Go.Proofs.Ytenihedpbklmlaa
open Go.RowKit

/-- Place i of a list of Booleans; false behind its end. -/
def bt (ls : List Bool) (i : Nat) : Bool := ls.getD i false
theorem bt_lt {ls : List Bool} {i : Nat} (h : i < ls.length) : bt ls i = ls[i] := by simp [bt, h]
theorem bt_ge {ls : List Bool} {i : Nat} (h : ¬ i < ls.length) : bt ls i = false := by simp [bt, show ls.length ≤ i by omega]
/-- The slice that begins at `a` holds the Booleans `ls`, in a block below `B`; nothing is said of an empty one. -/
def Bls (w : World) (B : Nat) (a : Option Addr) (ls : List Bool) : Prop :=
  ls ≠ [] → ∃ b off, a = some ⟨b, off, none⟩ ∧ b < B ∧ ∀ i, i < ls.length → w.cell? ⟨b, off + i, none⟩ = some (.bool (bt ls i))
section
variable {w w' : World} {B B' : Nat} {a : Option Addr} {ls : List Bool}
theorem Bls.nil : Bls w B a [] := fun h => absurd rfl h
theorem Bls.at_ (h : Bls w B a ls) {i : Nat} (hi : i < ls.length) :
    ∃ b off, a = some ⟨b, off, none⟩ ∧ b < B ∧ w.cell? ⟨b, off + i, none⟩ = some (.bool (bt ls i)) := by
  obtain ⟨b, off, e, hb, hc⟩ := h (by intro e; subst e; simp at hi)
  exact ⟨b, off, e, hb, hc i hi⟩
theorem Bls.keep (h : Bls w B a ls) (hk : ∀ p : Addr, p.block < B → w'.cell? p = w.cell? p) : Bls w' B a ls := fun hn => by
  obtain ⟨b, off, e, hb, hc⟩ := h hn
  exact ⟨b, off, e, hb, fun i hi => (hk _ hb).trans (hc i hi)⟩
theorem Bls.more (h : Bls w B a ls) (hB : B ≤ B') : Bls w B' a ls := fun hn => by
  obtain ⟨b, off, e, hb, hc⟩ := h hn
  exact ⟨b, off, e, Nat.lt_of_lt_of_le hb hB, hc⟩
theorem Bls.below (h : Bls w B a ls) (hb : Below B w w') : Bls w' B a ls := h.keep fun _ hp => hb.cell hp
theorem Bls.drewN (h : Bls w B a ls) (n : Nat) : Bls (w.drewN n) B a ls := h
theorem Bls.next (h : Bls w w.heap.size a ls) (hb : Below w.heap.size w w') : Bls w' w'.heap.size a ls := (h.below hb).more hb.size
end
set_option maxRecDepth 10000 in
theorem isMarked_is (a : Option Addr) (c B : Nat) (ls : List Bool) (t : Nat) (r : Bool) (w : World) (hx : Bls w B a ls) (hr : bt ls t = r) :
    Calls Try.prog 63 #[.slice a ls.length c, .int .i64 (t : Int)] w fun e w' => e = .returned (.bool r) ∧ w = w' := by
  subst hr
  by_cases h : t < ls.length
  · obtain ⟨b, off, rfl, hb, hc⟩ := hx.at_ h
    generalize bt ls t = r at *
    have h' : (t : Int) < (ls.length : Int) := by omega
    clear hx
    go_enter Try.func63, Try.ntmps63
    go_wp2
    go_ret
    exact ⟨rfl, rfl⟩
  · rw [bt_ge h]
    have h' : ¬ (t : Int) < (ls.length : Int) := by omega
    clear hx
    go_enter Try.func63, Try.ntmps63
    go_wp2
    go_ret
    exact ⟨rfl, rfl⟩
set_option maxRecDepth 10000 in
theorem l16At_is (a : Option Addr) (c B : Nat) (ls : List Bool) (t : Nat) (r : Bool) (w : World) (hx : Bls w B a ls) (hr : bt ls t = r) :
    Calls Try.prog 51 #[.slice a ls.length c, .int .i64 (t : Int)] w fun e w' => e = .returned (.bool r) ∧ w = w' := by
  subst hr
  by_cases h : t < ls.length
  · obtain ⟨b, off, rfl, hb, hc⟩ := hx.at_ h
    generalize bt ls t = r at *
    have h' : (t : Int) < (ls.length : Int) := by omega
    clear hx
    go_enter Try.func51, Try.ntmps51
    go_wp2
    go_ret
    exact ⟨rfl, rfl⟩
  · rw [bt_ge h]
    have h' : ¬ (t : Int) < (ls.length : Int) := by omega
    clear hx
    go_enter Try.func51, Try.ntmps51
    go_wp2
    go_ret
    exact ⟨rfl, rfl⟩
set_option maxRecDepth 10000 in
theorem btw_is (n lo hi : Int) (b : Bool) (w : World) (h : (decide (lo ≤ n) && decide (n ≤ hi)) = b) : Calls Try.prog 54 #[.int .i64 n, .int .i64 lo, .int .i64 hi] w fun e w' => e = .returned (.bool b) ∧ w = w' := by
  subst h
  by_cases h1 : lo ≤ n
  · by_cases h2 : n ≤ hi
    · go_enter Try.func54, Try.ntmps54
      go_wp2
      go_ret
      exact ⟨ret_bool (by simp [h1, h2]), rfl⟩
    · go_enter Try.func54, Try.ntmps54
      go_wp2
      go_ret
      exact ⟨ret_bool (by simp [h2]), rfl⟩
  · go_enter Try.func54, Try.ntmps54
    go_wp2
    go_ret
    exact ⟨ret_bool (by simp; intro; omega), rfl⟩
set_option maxRecDepth 10000 in
theorem messageCountValid_is (n : Int) (b : Bool) (w : World) (h : rpIn n = b) : Calls Try.prog 49 #[.int .i64 n] w fun e w' => e = .returned (.bool b) ∧ w = w' := by
  subst h
  have HI := Lib.hid (fun W => btw_is n 0 30 (rpIn n) W rfl)
  go_enter Try.func49, Try.ntmps49
  go_wp2_with (go_at_call 54; ((with_reducible refine (HI.out _).mono ?_); rintro e w1 ⟨rfl, rfl⟩))
  go_ret
  exact ⟨rfl, rfl⟩
set_option maxRecDepth 10000 in
theorem windowValid_is (n v : Int) (b : Bool) (w : World) (h : (rpIn n && wnIn v) = b) : Calls Try.prog 53 #[.int .i64 n, .int .i64 v] w fun e w' => e = .returned (.bool b) ∧ w = w' := by
  subst h
  have HJ := Lib.hid (fun W => btw_is v 1 8 (wnIn v) W rfl)
  cases h1 : rpIn n
  · have HI := Lib.hid (fun W => messageCountValid_is n false W h1)
    clear h1
    go_enter Try.func53, Try.ntmps53
    go_wp2_with (go_at_call 49; ((with_reducible refine (HI.out _).mono ?_); rintro e w1 ⟨rfl, rfl⟩))
    go_ret
    exact ⟨rfl, rfl⟩
  · have HI := Lib.hid (fun W => messageCountValid_is n true W h1)
    clear h1
    go_enter Try.func53, Try.ntmps53
    go_wp2_with first
      | (go_at_call 49; ((with_reducible refine (HI.out _).mono ?_); rintro e w1 ⟨rfl, rfl⟩))
      | (go_at_call 54; ((with_reducible refine (HJ.out _).mono ?_); rintro e w1 ⟨rfl, rfl⟩))
    go_ret
    exact ⟨ret_bool (by simp), rfl⟩
/-- What a call leaves that returns a new list and one value more. -/
def PairP (L : List Int) (v : Value) (w : World) (e : Ending) (w' : World) : Prop :=
  ∃ a cap, e = .returned (.tuple #[.slice a L.length cap, v]) ∧ (L.length ≤ cap ∧ cap ≤ maxLen) ∧ OwnInts .i64 3 w' w.heap.size a L ∧ Below w.heap.size w w'
set_option maxRecDepth 10000 in
theorem pairP_grow {L : List Int} {v : Value} {w w' : World} {a : Option Addr} {n cap : Nat} (h : Grow .i64 3 w' w.heap.size a n cap L) (hb : Below w.heap.size w w') : PairP L v w (.returned (.tuple #[.slice a n cap, v])) w' := by
  obtain ⟨a', cap', e, h1, h2, h3⟩ := listPostC_grow h hb
  injection e with e
  injection e with e1 e2 e3
  subst e1 e3
  exact ⟨_, _, by rw [e2], h1, h2, h3⟩
theorem pairP_nil {v : Value} {w w' : World} (hb : Below w.heap.size w w') : PairP [] v w (.returned (.tuple #[.slice none 0 0, v])) w' := pairP_grow (Grow.nil _ _ _ _) hb
end Go.Proofs.Ytenihedpbklmlaa
