/-
  RowsL of numbers in memory, links by value; what asking whether links and powers are valid, and what a link needs, answer. Conditions: rows and lists can be read; the later ones: valid links, as many powers.
-/
import Derived.Test.YtgdfjbdpidileaaPwMath
import Derived.Test.YtgdfjbdpidileaaSeq2
import Derived.Test.YtgdfjbdpidileaaWs1
import Derived.Laws.Cover1
namespace Go.Proofs.Ytgdfjbdpidileaa
open Go.RowKit

/-- The slice that begins at a holds the rows R, all of it in blocks below B. -/
def RowsL (w : World) (B : Nat) (a : Option Addr) (R : List (List Int)) : Prop :=
  R ≠ [] → ∃ b off : Nat, a = some (⟨b, off, none⟩ : Addr) ∧ b < B ∧ ∀ i, i < R.length → ∃ ad cp, w.cell? ⟨b, off + i, none⟩ = some (.slice ad (rwI R i).length cp) ∧ (rwI R i).length ≤ cp ∧ cp ≤ maxLen ∧ Ints .i64 w B ad (rwI R i)
section
variable {w w' : World} {B B' : Nat} {a : Option Addr} {R : List (List Int)}
theorem RowsL.at_ (h : RowsL w B a R) {i : Nat} (hi : i < R.length) : ∃ (b off : Nat) (ad : Option Addr) (cp : Nat), a = some (⟨b, off, none⟩ : Addr) ∧ w.cell? ⟨b, off + i, none⟩ = some (.slice ad (rwI R i).length cp) ∧ (rwI R i).length ≤ cp ∧ cp ≤ maxLen ∧ Ints .i64 w B ad (rwI R i) := by
  obtain ⟨b, off, e, _, hc⟩ := h (by intro e; subst e; simp at hi)
  obtain ⟨ad, cp, h1, h2⟩ := hc i hi
  exact ⟨b, off, ad, cp, e, h1, h2⟩
theorem RowsL.below (h : RowsL w B a R) (hb : Below B w w') : RowsL w' B a R := fun hn => by
  obtain ⟨b, off, e, h1, hc⟩ := h hn
  refine ⟨b, off, e, h1, fun i hi => ?_⟩
  obtain ⟨ad, cp, h2, h3, h4, h5⟩ := hc i hi
  exact ⟨ad, cp, (hb.cell h1).trans h2, h3, h4, h5.below hb⟩
theorem RowsL.more (h : RowsL w B a R) (hB : B ≤ B') : RowsL w B' a R := fun hn => by
  obtain ⟨b, off, e, h1, hc⟩ := h hn
  refine ⟨b, off, e, Nat.lt_of_lt_of_le h1 hB, fun i hi => ?_⟩
  obtain ⟨ad, cp, h2, h3, h4, h5⟩ := hc i hi
  exact ⟨ad, cp, h2, h3, h4, h5.more hB⟩
theorem RowsL.next (h : RowsL w w.heap.size a R) (hb : Below w.heap.size w w') : RowsL w' w'.heap.size a R := (h.below hb).more hb.size
theorem RowsL.drewN (h : RowsL w B a R) (n : Nat) : RowsL (w.drewN n) B a R := h
end
/-- Links by value. -/
def lkV (a : Option Addr) (n c : Nat) (N T : Int) : Value := .agg #[.slice a n c, .int .i64 N, .int .i64 T]
/-- A box, block q, holds links; below q the world is as it was. -/
structure LBox (w W : World) (q : Nat) (a : Option Addr) (n c : Nat) (N T : Int) : Prop where
  g : W.cell? ⟨q, 0, none⟩ = some (.slice a n c)
  n : W.cell? ⟨q, 1, none⟩ = some (.int .i64 N)
  t : W.cell? ⟨q, 2, none⟩ = some (.int .i64 T)
  lt : q < W.heap.size
  b : Below q w W
theorem lbox_new (w : World) (a : Option Addr) (n c : Nat) (N T : Int) (t : TypeId) : LBox w (w.alloc (.cells #[.slice a n c, .int .i64 N, .int .i64 T] t)) w.heap.size a n c N T :=
  ⟨cell_of_row _ _ 0 _ _ _ (heap_alloc_last _ _), cell_of_row _ _ 1 _ _ _ (heap_alloc_last _ _), cell_of_row _ _ 2 _ _ _ (heap_alloc_last _ _), by simp, (Below.refl _ _).alloc (Nat.le_refl _) _⟩
section
variable {w W W' : World} {q : Nat} {a : Option Addr} {n c : Nat} {N T : Int}
theorem LBox.keep (h : LBox w W q a n c N T) (hk : W'.heap[q]? = W.heap[q]?) (hs : W.heap.size ≤ W'.heap.size) (hb : Below q w W') : LBox w W' q a n c N T :=
  ⟨by rw [World.cell?_of_block hk]; exact h.g, by rw [World.cell?_of_block hk]; exact h.n, by rw [World.cell?_of_block hk]; exact h.t, Nat.lt_of_lt_of_le h.lt hs, hb⟩
theorem LBox.next (h : LBox w W q a n c N T) (hb : Below W.heap.size W W') : LBox w W' q a n c N T :=
  h.keep (hb.block q h.lt) hb.size (h.b.trans (hb.mono (Nat.le_of_lt h.lt)))
theorem LBox.drewN (h : LBox w W q a n c N T) (m : Nat) : LBox w (W.drewN m) q a n c N T := ⟨h.g, h.n, h.t, h.lt, below_drewN h.b m⟩
end
theorem isBetween_any (n lo hi : Int) (w : World) : Calls Try.prog 10 #[.int .i64 n, .int .i64 lo, .int .i64 hi] w fun e w' => e = .returned (.bool (decide (lo ≤ n ∧ n ≤ hi))) ∧ w = w' := by
  by_cases h1 : lo ≤ n
  · by_cases h2 : n ≤ hi
    · go_enter Try.func10, Try.ntmps10
      go_wp2
      go_ret
      exact ⟨ret_bool (by simp [h1, h2]), rfl⟩
    · go_enter Try.func10, Try.ntmps10
      go_wp2
      go_ret
      exact ⟨ret_bool (by simp [h2]), rfl⟩
  · go_enter Try.func10, Try.ntmps10
    go_wp2
    go_ret
    exact ⟨ret_bool (by simp only [decide_eq_false (show ¬ lo ≤ n by omega), Bool.false_and]), rfl⟩
theorem isBetween_is (n lo hi : Int) (b : Bool) (w : World) (h : decide (lo ≤ n ∧ n ≤ hi) = b) : Calls Try.prog 10 #[.int .i64 n, .int .i64 lo, .int .i64 hi] w fun e w' => e = .returned (.bool b) ∧ w = w' := by
  subst h; exact isBetween_any n lo hi w
set_option maxHeartbeats 1000000 in
theorem linkGains_any (a : Option Addr) (c B : Nat) (g : List Int) (i n : Nat) (w : World) (hx : Ints .i64 w B a g) (hi : i < n) (hn : n ≤ 5) :
    Calls Try.prog 11 #[.slice a g.length c, .int .i64 (i : Int), .int .i64 (n : Int)] w fun e w' => e = .returned (.bool (decide (RowOk n i g))) ∧ w = w' := by
  have HX := Lib.hid hx
  clear hx
  by_cases hl : g.length = n
  · subst hl
    have hl' : ((g.length : Int) != (g.length : Int)) = false := by simp
    go_enter Try.func11, Try.ntmps11
    go_wp2
    clear hl'
    go_loop [15] (fun x => ∃ k : Nat, k ≤ g.length ∧ x = .int .i64 k ∧ RowIn k g) (fun x => g.length - (intOf x).toNat)
    case atStart => exact ⟨0, Nat.zero_le _, rfl, fun i hi => absurd hi (by omega)⟩
    case round =>
      obtain ⟨k, hk, rfl, hgood⟩ := hrel
      have HG := Lib.hid hgood
      clear hgood
      by_cases hlt : k < g.length
      · obtain ⟨b, off, rfl, hb, hc⟩ := HX.out.at_ hlt
        by_cases h1 : 0 ≤ el g k ∧ el g k ≤ 1000
        · have HI := Lib.hid (fun W => isBetween_is (el g k) 0 1000 true W (decide_eq_true h1))
          have HE := Lib.hid (rowIn_next HG.out h1)
          clear h1
          go_wp2_with (go_at_call 10; ((with_reducible refine (HI.out _).mono ?_); rintro e w1 ⟨rfl, rfl⟩))
          go_round
          case rel => exact ⟨k + 1, by omega, by go_num, HE.out⟩
          case measure => simp [intOf]; omega
        · have HI := Lib.hid (fun W => isBetween_is (el g k) 0 1000 false W (decide_eq_false h1))
          have HE : Hid (decide (RowOk g.length i g) = false) := decide_eq_false fun h => h1 (h.2.1 k hlt)
          clear h1
          go_wp2_with (go_at_call 10; ((with_reducible refine (HI.out _).mono ?_); rintro e w1 ⟨rfl, rfl⟩))
          go_ret
          exact ⟨ret_bool HE.out.symm, rfl⟩
      · obtain rfl : g.length = k := by omega
        obtain ⟨b, off, rfl, hb, hc⟩ := HX.out.at_ hi
        have HE : Hid (decide (0 < el g i) = decide (RowOk g.length i g)) := by
          show decide (0 < el g i) = decide (RowOk g.length i g)
          rw [decide_eq_decide]
          exact ⟨fun h => ⟨rfl, HG.out, h⟩, fun h => h.2.2⟩
        go_wp2
        go_ret
        exact ⟨ret_bool HE.out, rfl⟩
  · have hl' : ((g.length : Int) != (n : Int)) = true := by simp; omega
    have HE : Hid (decide (RowOk n i g) = false) := decide_eq_false fun h => hl h.1
    clear hl
    go_enter Try.func11, Try.ntmps11
    go_wp2
    go_ret
    exact ⟨ret_bool HE.out.symm, rfl⟩
end Go.Proofs.Ytgdfjbdpidileaa
