/-
  What EncodeWord, WordSyndromes and WordDistance answer, for every list. Conditions: a list that can be read; the program's four tables lie in their variables.
-/
import Derived.Test.YtkeeijkjemcbcaaDoorWrd5
import Derived.Test.YtkeeijkjemcbcaaDoorSliceFns
namespace Go.Proofs.YtkeeijkjemcbcaaDoor
open Go.RowKit

/-- What EncodeWord, WordSyndromes and WordDistance answer. -/
def encL (xs : List Int) : List Int := if wok 11 xs then ofN (enc6 (co xs)) 15 else []
def synL6 (xs : List Int) : List Int := if wok 15 xs then [(syn6 (co xs) 0 : Int), syn6 (co xs) 1, syn6 (co xs) 2, syn6 (co xs) 3] else []
def dist6 (xs ys : List Int) : Int := if wok 15 xs && wok 15 ys then (wt (fun i => co xs i ^^^ co ys i) 15 : Int) else -1
theorem encL_no {xs : List Int} (h : wok 11 xs = false) : encL xs = [] := by simp [encL, h]
theorem encL_yes {xs : List Int} (h : wok 11 xs = true) : encL xs = ofN (enc6 (co xs)) 15 := by simp [encL, h]
theorem synL6_no {xs : List Int} (h : wok 15 xs = false) : synL6 xs = [] := by simp [synL6, h]
theorem synL6_yes {xs : List Int} (h : wok 15 xs = true) : synL6 xs = [(syn6 (co xs) 0 : Int), syn6 (co xs) 1, syn6 (co xs) 2, syn6 (co xs) 3] := by simp [synL6, h]
theorem dist6_l {xs ys : List Int} (h : wok 15 xs = false) : dist6 xs ys = -1 := by simp [dist6, h]
theorem dist6_r {xs ys : List Int} (h : wok 15 ys = false) : dist6 xs ys = -1 := by simp [dist6, h]
theorem dist6_yes {xs ys : List Int} (h : wok 15 xs = true) (h2 : wok 15 ys = true) : dist6 xs ys = (wt (fun i => co xs i ^^^ co ys i) 15 : Int) := by simp [dist6, h, h2]
theorem encL_parts {xs : List Int} (h : wok 11 xs = true) : xs ++ [(rem6 (co xs) 11 0 : Int), rem6 (co xs) 11 1, rem6 (co xs) 11 2, rem6 (co xs) 11 3] = encL xs := by
  obtain ⟨h1, h2⟩ := wok_parts h
  rw [encL_yes h]
  refine list_el (by simp [ofN_length, h1]) fun i hi => ?_
  have hi15 : i < 15 := by simp [h1] at hi; omega
  rw [ofN_el hi15]
  by_cases hlt : i < 11
  · rw [enc6_data _ hlt, ← (co_el h2 (by omega)).1]
    simp [el, List.getElem?_append_left (show i < xs.length by omega)]
  · have : i = 11 ∨ i = 12 ∨ i = 13 ∨ i = 14 := by omega
    rcases this with rfl | rfl | rfl | rfl <;> simp [el, h1, enc6]
theorem ListPostC.back {xs : List Int} {w W w' : World} {e : Ending} (h : ListPostC xs W e w') (hw : Below w.heap.size w W) : ListPostC xs w e w' := by
  obtain ⟨a, cap, h1, h2, h3, h4⟩ := h
  refine ⟨a, cap, h1, h2, fun hne => ?_, Below.next hw (Nat.le_refl _) h4⟩
  obtain ⟨b, cap', e1, e2, e3⟩ := h3 hne
  exact ⟨b, cap', e1, Nat.le_trans hw.size e2, e3⟩
theorem store4_abs {ops : Array Oper} {rest : List Oper} {o : Oper} {a : Act} {w : World} {Q : Exit → Act → World → Prop} (x y : Operand) (g : Nat) (cells old : Array Value)
    (hg : w.heap[g]? = some (.cells old 42 (0, 0))) (hs : cells.size = 4) (hold : old.size = 4) (h1 : cells.all (·.oneCell') = true)
    (hgd : o.guard = none) (ho : o.op = .store 42 x y) (hx : a.eval x = .pointer (some ⟨g, 0, none⟩)) (hy : a.eval y = .agg cells)
    (h : ∀ W, Hid (W = w.setRow g cells) → wpList Tryd.prog ops Q rest (a.put o.dst undef) W) : wpList Tryd.prog ops Q (o :: rest) a w :=
  store4 x y g cells old hg hs hold h1 hgd ho hx hy (h _ rfl)
section
variable {w w1 W0 : World} {z cs : Array Value} {t : TypeId} {fr : Nat × Nat}
theorem box_fst (h : Hid (W0 = (w1.alloc (.cells z t fr)).setRow w1.heap.size cs)) : W0.heap[w1.heap.size]? = some (.cells cs t fr) := by
  rw [h.out]; exact setRow_heap _ _ _ _ _ _ (heap_alloc_last _ _)
theorem below_box (hb : Below w.heap.size w w1) (h : Hid (W0 = (w1.alloc (.cells z t fr)).setRow w1.heap.size cs)) : Below w.heap.size w W0 := by
  rw [h.out]; exact below_setRow (hb.alloc hb.size _) hb.size _
end
theorem ints_row4 {w : World} {g a b c d : Nat} {t : TypeId} {fr : Nat × Nat} (h : w.heap[g]? = some (.cells (row4 a b c d) t fr)) : Ints .i64 w w.heap.size (some ⟨g, 0, none⟩) [(a : Int), b, c, d] := fun _ =>
  ⟨g, 0, rfl, (Array.getElem?_eq_some_iff.1 h).1, fun i hi => by
    have hi4 : i < 4 := hi
    rw [Nat.zero_add]
    match i, hi4 with
    | 0, _ | 1, _ | 2, _ | 3, _ => exact cell_of_row _ _ _ _ _ _ h⟩

set_option maxHeartbeats 1000000 in
theorem encodeWord_any (a : Option Addr) (c : Nat) (xs : List Int) (w : World) (hx : Ints .i64 w w.heap.size a xs) (hT : Tabs2 w) (hG : GenTab w) :
    Calls Tryd.prog 14 #[.slice a xs.length c] w (ListPostC (encL xs) w) := by
  have HV := Lib.hid (symbolsValid_any a c w.heap.size 11 xs w hx (by omega))
  cases hk : wok 11 xs
  · have HE := Lib.hid (encL_no hk)
    rw [hk] at HV
    clear hx hT hG hk
    go_enter Tryd.func14, Tryd.ntmps14
    go_wp2_with (go_at_call 34; refine HV.out.mono ?_; rintro e w' ⟨rfl, rfl⟩)
    go_ret
    rw [HE.out]
    exact listPostC_nil (Below.refl _ _)
  · have HC := Lib.hid (checkSymbols_any a c xs w hx hk hT hG)
    have HE := Lib.hid (encL_parts hk)
    have HX := Lib.hid hx
    have hl := (wok_parts hk).1
    have hl20 : xs.length ≤ 20 := by omega
    have hl0 : 0 < xs.length := by omega
    rw [hk] at HV
    clear hx hT hG hk hl
    generalize rem6 (co xs) 11 0 = s0 at *
    generalize rem6 (co xs) 11 1 = s1 at *
    generalize rem6 (co xs) 11 2 = s2 at *
    generalize rem6 (co xs) 11 3 = s3 at *
    unfold arr4 at HC
    go_enter Tryd.func14, Tryd.ntmps14
    go_wp2_with (first
      | (go_at_call 34; refine HV.out.mono ?_; rintro e w' ⟨rfl, rfl⟩)
      | (go_at_call 35; refine HC.out.mono ?_; rintro e w1 ⟨rfl, b1⟩; have B1 := Lib.hid b1; clear b1)
      | (refine store4_abs (.tmp 3) (.tmp 8) w1.heap.size (row4 s0 s1 s2 s3) _ (heap_alloc_last _ _) rfl rfl (row4_one _ _ _ _) rfl rfl rfl rfl ?_; intro W0 hW0; have R0 := Lib.hid (box_fst hW0); have B0 := Lib.hid (below_box B1.out hW0); clear hW0))
    have HXW := Lib.hid (fun o => ((HX.out.next B0.out).next (below_alloc W0 o)))
    have HYW := Lib.hid (fun o => ((ints_row4 R0.out).next (below_alloc W0 o)))
    refine (slicesConcat_any W0.heap.size a (some ⟨w1.heap.size, 0, none⟩) c 4 xs [(s0 : Int), s1, s2, s3] (W0.alloc _) (cell_of_row _ _ 0 _ _ _ (heap_alloc_last _ _)) (cell_of_row _ _ 1 _ _ _ (heap_alloc_last _ _)) (by simp) (HXW.out _) (HYW.out _) (by omega) (by show xs.length + 4 < 1048576; omega)).mono ?_
    rintro e w2 hp
    rw [HE.out] at hp
    obtain ⟨v, cv, rfl, hr, ho, hb⟩ := ListPostC.back hp (B0.out.alloc B0.out.size _)
    have HP : Hid (ListPostC (encL xs) w (.returned (.slice v (encL xs).length cv)) w2) := ⟨v, cv, rfl, hr, ho, hb⟩
    clear hp hr ho hb
    generalize (encL xs).length = m at *
    go_wp2
    go_ret
    exact HP.out

/-- What WordSyndromes leaves: the four syndromes in an array of the call's own. -/
def SynPost (xs : List Int) (w : World) (e : Ending) (w' : World) : Prop :=
  ∃ a cap, e = .returned (.slice a (synL6 xs).length cap) ∧ ((synL6 xs).length ≤ cap ∧ cap ≤ maxLen) ∧ OwnInts .i64 42 w' w.heap.size a (synL6 xs) ∧ Below w.heap.size w w'
theorem own_row4 {w : World} {g B a b c d : Nat} {t : TypeId} (h : w.heap[g]? = some (.cells (row4 a b c d) t (0, 0))) (hB : B ≤ g) : OwnInts .i64 t w B (some ⟨g, 0, none⟩) [(a : Int), b, c, d] := fun _ =>
  ⟨g, 4, rfl, hB, Nat.le_refl _, fun i => (row4 a b c d).getD i undef, ⟨_, h, rfl, fun i hi => by
    match i, hi with
    | 0, _ | 1, _ | 2, _ | 3, _ => rfl⟩, fun i hi => by
    have hi4 : i < 4 := hi
    match i, hi4 with
    | 0, _ | 1, _ | 2, _ | 3, _ => rfl⟩
theorem synPost_no {xs : List Int} {w w' : World} (h : synL6 xs = []) (hb : Below w.heap.size w w') : SynPost xs w (.returned (.slice none 0 0)) w' := by
  unfold SynPost; rw [h]; exact ⟨none, 0, rfl, ⟨Nat.le_refl _, Nat.zero_le _⟩, fun h => absurd rfl h, hb⟩
theorem synPost_yes {xs : List Int} {w w' : World} {g a b c d : Nat} (h : synL6 xs = [(a : Int), b, c, d]) (hr : w'.heap[g]? = some (.cells (row4 a b c d) 42 (0, 0))) (hB : w.heap.size ≤ g) (hb : Below w.heap.size w w') :
    SynPost xs w (.returned (.slice (some ⟨g, 0, none⟩) 4 4)) w' := by
  unfold SynPost; rw [h]; exact ⟨_, 4, rfl, ⟨Nat.le_refl _, by unfold maxLen; omega⟩, own_row4 hr hB, hb⟩
set_option maxHeartbeats 1000000 in
theorem wordSyndromes_any (a : Option Addr) (c : Nat) (xs : List Int) (w : World) (hx : Ints .i64 w w.heap.size a xs) (hT : Tabs2 w) (hZ : ZerTab w) :
    Calls Tryd.prog 19 #[.slice a xs.length c] w (SynPost xs w) := by
  have HV := Lib.hid (symbolsValid_any a c w.heap.size 15 xs w hx (by omega))
  cases hk : wok 15 xs
  · have HE := Lib.hid (synL6_no hk)
    rw [hk] at HV
    clear hx hT hZ hk
    go_enter Tryd.func19, Tryd.ntmps19
    go_wp2_with (go_at_call 34; refine HV.out.mono ?_; rintro e w' ⟨rfl, rfl⟩)
    go_ret
    exact synPost_no HE.out (Below.refl _ _)
  · have HC := Lib.hid (syndromesOf_any a c xs w hx hk hT hZ)
    have HE := Lib.hid (synL6_yes hk)
    rw [hk] at HV
    clear hx hT hZ hk
    generalize syn6 (co xs) 0 = s0 at *
    generalize syn6 (co xs) 1 = s1 at *
    generalize syn6 (co xs) 2 = s2 at *
    generalize syn6 (co xs) 3 = s3 at *
    unfold arr4 at HC
    go_enter Tryd.func19, Tryd.ntmps19
    go_wp2_with (first
      | (go_at_call 34; refine HV.out.mono ?_; rintro e w' ⟨rfl, rfl⟩)
      | (go_at_call 42; refine HC.out.mono ?_; rintro e w1 ⟨rfl, b1⟩; have B1 := Lib.hid b1; clear b1)
      | (refine store4_abs (.tmp 3) (.tmp 8) w1.heap.size (row4 s0 s1 s2 s3) _ (heap_alloc_last _ _) rfl rfl (row4_one _ _ _ _) rfl rfl rfl rfl ?_; intro W0 hW0; have R0 := Lib.hid (box_fst hW0); have B0 := Lib.hid (below_box B1.out hW0); clear hW0))
    go_ret
    exact synPost_yes HE.out R0.out B1.out.size B0.out
end Go.Proofs.YtkeeijkjemcbcaaDoor
