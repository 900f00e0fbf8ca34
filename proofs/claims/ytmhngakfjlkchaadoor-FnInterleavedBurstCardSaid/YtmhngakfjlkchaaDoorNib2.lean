/-
  What EncodeNibble, SyndromeOf, DecodeNibble and the test of blocks answer, for every list. Conditions: the program's two tables lie in their variables, where a word is looked up.
-/
import Derived.Test.YtmhngakfjlkchaaDoorNib
import Derived.Lib.LaidTab
namespace Go.Proofs.YtmhngakfjlkchaaDoor
open Go.RowKit

/-- The variable syndromes holds the table; so does the variable corrections. -/
def SynTab (w : World) : Prop := 0 < w.heap.size ∧ ∀ i, i < 128 → w.cell? ⟨0, i, none⟩ = some (.int .i64 (el synL i))
def CorTab (w : World) : Prop := 1 < w.heap.size ∧ ∀ i, i < 8 → w.cell? ⟨1, i, none⟩ = some (.int .i64 (el corL i))
theorem SynTab.next {w w' : World} (h : SynTab w) (hb : Below w.heap.size w w') : SynTab w' := ⟨Nat.lt_of_lt_of_le h.1 hb.size, fun i hi => (hb.cell h.1).trans (h.2 i hi)⟩
theorem CorTab.next {w w' : World} (h : CorTab w) (hb : Below w.heap.size w w') : CorTab w' := ⟨Nat.lt_of_lt_of_le h.1 hb.size, fun i hi => (hb.cell h.1).trans (h.2 i hi)⟩
theorem SynTab.below {w w' : World} {B : Nat} (h : SynTab w) (hb : Below B w w') (hB : 0 < B) : SynTab w' := ⟨Nat.lt_of_lt_of_le h.1 hb.size, fun i hi => (hb.cell hB).trans (h.2 i hi)⟩
theorem CorTab.below {w w' : World} {B : Nat} (h : CorTab w) (hb : Below B w w') (hB : 1 < B) : CorTab w' := ⟨Nat.lt_of_lt_of_le h.1 hb.size, fun i hi => (hb.cell hB).trans (h.2 i hi)⟩
theorem SynTab.drewN {w : World} (h : SynTab w) (n : Nat) : SynTab (w.drewN n) := h
theorem CorTab.drewN {w : World} (h : CorTab w) (n : Nat) : CorTab (w.drewN n) := h

/-- What SyndromeOf answers. -/
def synOr (xs : List Int) : Int := if wordOk xs then (syn xs : Int) else -1
/-- What DecodeNibble answers. -/
def decOr (xs : List Int) : List Int := if wordOk xs then decW xs else []
def fixOr (xs : List Int) : Bool := wordOk xs && decide (syn xs ≠ 0)
def DecPost (xs : List Int) (w : World) (e : Ending) (w' : World) : Prop :=
  ∃ a cap, e = .returned (.tuple #[.slice a (decOr xs).length cap, .bool (fixOr xs)]) ∧ ((decOr xs).length ≤ cap ∧ cap ≤ maxLen) ∧ OwnInts .i64 3 w' w.heap.size a (decOr xs) ∧ Below w.heap.size w w'
theorem decPost_no {xs : List Int} {w w' : World} (h : wordOk xs = false) (hb : Below w.heap.size w w') : DecPost xs w (.returned (.tuple #[.slice none 0 0, .bool false])) w' := by
  have h1 : decOr xs = [] := by simp [decOr, h]
  have h2 : fixOr xs = false := by simp [fixOr, h]
  unfold DecPost
  rw [h1, h2]
  exact ⟨none, 0, rfl, ⟨Nat.le_refl _, Nat.zero_le _⟩, fun h => absurd rfl h, hb⟩
set_option maxHeartbeats 1000000 in
theorem decodeNibble_any (a : Option Addr) (c B : Nat) (xs : List Int) (w : World) (hx : Ints .i64 w B a xs) (hB : B ≤ w.heap.size) (hS : SynTab w) (hC : CorTab w) :
    Calls Tryd.prog 23 #[.slice a xs.length c] w (DecPost xs w) := by
  have hn := numberOf_any a c B xs w hx hB
  clear hx
  unfold WordPost at hn
  cases hok : wordOk xs
  · rw [hok] at hn
    have HE := Lib.hid hok
    have HN := Lib.hid hn
    clear hn hok hS hC
    go_enter Tryd.func23, Tryd.ntmps23
    go_wp2_with (go_at_call 30; refine HN.out.mono ?_; rintro e w1 ⟨rfl, b1⟩; have B1 := Lib.hid b1; clear b1)
    go_ret2
    exact decPost_no HE.out B1.out
  · obtain ⟨hl, hb⟩ := wordOk_parts hok
    obtain ⟨n, hnn⟩ : ∃ n, n = num7 xs := ⟨_, rfl⟩
    obtain ⟨s, hss⟩ : ∃ s, s = syn xs := ⟨_, rfl⟩
    obtain ⟨k, hkk⟩ : ∃ k, k = corN s := ⟨_, rfl⟩
    obtain ⟨m, hmm⟩ : ∃ m, m = n ^^^ k := ⟨_, rfl⟩
    have hn128 : n < 128 := by rw [hnn]; exact num7_lt xs
    have hs8 : s < 8 := by rw [hss]; exact syn_lt xs
    have hk128 : k < 128 := by rw [hkk]; exact corN_lt hs8
    have hm128 : m < 128 := by rw [hmm]; exact Nat.xor_lt_two_pow (n := 7) hn128 hk128
    have hx1 : bits .xor .i64 (n : Int) (k : Int) = (m : Int) := by rw [hmm]; exact i64_xor n k (by omega) (by omega)
    rw [hok, show numOr xs = n by rw [numOr, hok, hnn]; rfl] at hn
    have HC1 := Lib.hid (show ∀ w', Below w.heap.size w w' → w'.cell? ⟨0, n, none⟩ = some (.int .i64 (s : Int)) from fun w' hb' => by
      rw [(hS.next hb').2 n hn128, hnn, syn_tab hl hb, hss])
    have HC2 := Lib.hid (show ∀ w', Below w.heap.size w w' → w'.cell? ⟨1, s, none⟩ = some (.int .i64 (k : Int)) from fun w' hb' => by
      rw [(hC.next hb').2 s hs8, corN_el hs8, hkk])
    have HD := Lib.hid (show digits (dat m) 4 = decOr xs by rw [decOr, hok, hmm, hkk, hnn, hss]; exact digits_dat hl hb)
    have HF := Lib.hid (show ((s : Int) != 0) = fixOr xs by rw [fixOr, hok, ← hss, Bool.true_and]; rw [Bool.eq_iff_iff]; simp)
    have HN := Lib.hid hn
    clear hn hok hS hC hnn hss hkk hmm hl hb
    go_enter Tryd.func23, Tryd.ntmps23
    go_wp2_with (first | (go_at_call 30; refine HN.out.mono ?_; rintro e w1 ⟨rfl, b1⟩; have B1 := Lib.hid b1; have hc1 := HC1.out w1 b1; have hc2 := HC2.out w1 b1; clear b1) | (go_at_call 31; refine (dataOf_any m w1 hm128).mono ?_; rw [HD.out]; rintro e w2 ⟨v2, cv2, rfl, r2, o2, b2⟩; have R2 := Lib.hid r2; have O2 := Lib.hid o2; have B2 := Lib.hid b2; clear r2 o2 b2))
    go_ret2
    unfold DecPost
    rw [← HF.out]
    refine ⟨v2, cv2, rfl, R2.out, fun hne => ?_, Below.next B1.out (Nat.le_refl _) B2.out⟩
    obtain ⟨b, cap, e1, e2, e3⟩ := O2.out hne
    exact ⟨b, cap, e1, Nat.le_trans B1.out.size e2, e3⟩
end Go.Proofs.YtmhngakfjlkchaaDoor
