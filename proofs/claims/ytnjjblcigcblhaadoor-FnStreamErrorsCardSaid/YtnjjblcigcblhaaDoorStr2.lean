/-
  What codedStreamValid and streamSurvivor answer: the survivor of the state 0, linked. Conditions: a list that can be read; the program's two tables of the stream code lie in their variables.
-/
import Derived.Test.YtnjjblcigcblhaaDoorStr1
namespace Go.Proofs.YtnjjblcigcblhaaDoor
open Go.RowKit

theorem codedOk_l {xs : List Int} (h : xs.length < 4) : codedOk xs = false := by
  cases e : codedOk xs with
  | false => rfl
  | true => have := codedOk_parts e; omega
theorem codedOk_g {xs : List Int} (h : 84 < xs.length) : codedOk xs = false := by
  cases e : codedOk xs with
  | false => rfl
  | true => have := codedOk_parts e; omega
theorem codedOk_o {xs : List Int} (h : xs.length % 2 = 1) : codedOk xs = false := by
  cases e : codedOk xs with
  | false => rfl
  | true => have := codedOk_parts e; omega
theorem codedOk_b {xs : List Int} (h1 : 4 ≤ xs.length) (h2 : xs.length ≤ 84) (h3 : xs.length % 2 = 0) : codedOk xs = bitsOk xs := by
  simp [codedOk, h1, h2, h3]
set_option maxHeartbeats 400000 in
theorem codedStreamValid_any (a : Option Addr) (c B : Nat) (xs : List Int) (w : World) (hx : Ints .i64 w B a xs) (hB : B ≤ w.heap.size) (hm : xs.length ≤ maxLen) :
    Calls Tryd.prog 53 #[.slice a xs.length c] w fun e w' => e = .returned (.bool (codedOk xs)) ∧ Below w.heap.size w w' := by
  have HV := Lib.hid (bitsValid_any a c B xs w hx hB)
  clear hx
  unfold maxLen at hm
  by_cases h1 : xs.length < 4
  · have HE := Lib.hid (codedOk_l h1)
    go_enter Tryd.func53, Tryd.ntmps53
    go_wp2
    go_ret
    exact ⟨ret_bool HE.out.symm, Below.refl _ _⟩
  · by_cases h2 : 84 < xs.length
    · have HE := Lib.hid (codedOk_g h2)
      go_enter Tryd.func53, Tryd.ntmps53
      go_wp2
      go_ret
      exact ⟨ret_bool HE.out.symm, Below.refl _ _⟩
    · rcases Nat.mod_two_eq_zero_or_one xs.length with h3 | h3
      · have HE := Lib.hid (codedOk_b (by omega) (by omega) h3)
        have hr : ((xs.length : Int) % 2 == 0) = true := by rw [beq_iff_eq]; omega
        clear h3
        go_enter Tryd.func53, Tryd.ntmps53
        go_wp2_with (go_at_call 35; refine HV.out.mono ?_; rintro e w1 ⟨rfl, b1⟩; have B1 := Lib.hid b1; clear b1)
        go_ret
        exact ⟨ret_bool HE.out.symm, B1.out⟩
      · have HE := Lib.hid (codedOk_o h3)
        have hr : ((xs.length : Int) % 2 == 0) = false := by rw [beq_eq_false_iff_ne]; omega
        clear h3
        go_enter Tryd.func53, Tryd.ntmps53
        go_wp2
        go_ret
        exact ⟨ret_bool HE.out.symm, Below.refl _ _⟩

theorem hdP_le : ∀ (ps qs : List (Nat × Nat)), Pairs2 ps → Pairs2 qs → hdP ps qs ≤ 2 * qs.length
  | [], qs, _, _ => by cases qs <;> simp [hdP]
  | _ :: _, [], _, _ => by simp [hdP]
  | p :: ps, q :: qs, hp, hq => by
    have ih := hdP_le ps qs hp.cons.2.2 hq.cons.2.2
    have x1 := xor_bit hp.cons.1 hq.cons.1
    have x2 := xor_bit hp.cons.2.1 hq.cons.2.1
    simp only [hdP, List.length_cons]
    omega
theorem sv_le {rs : List (Nat × Nat)} {a b : Nat} {p : Surv} (ha : a < 2) (hb : b < 2) (hr : Pairs2 rs) (h : sv rs a b = some p) : p.1 ≤ 2 * rs.length := by
  have hbest := sv_best rs a b ha hb
  rw [h] at hbest
  obtain ⟨h1, h2, h3, h4, _⟩ := hbest
  rw [h4]
  exact hdP_le _ _ (sEnc_pairs _ _ _ ha hb h2) hr
/-- The survivors of the four states at place k. -/
def svF (rs : List (Nat × Nat)) (k t : Nat) : Option Surv := sv (rs.drop k) (t / 2) (t % 2)
theorem svF_step {rs : List (Nat × Nat)} {k s : Nat} (hk : k < rs.length) (hs : s < 4) : accOf s (rs.getD k (0, 0)).1 (rs.getD k (0, 0)).2 (svF rs (k + 1)) 2 = svF rs k s := by
  have e : rs.drop k = rs.getD k (0, 0) :: rs.drop (k + 1) := by
    rw [List.drop_eq_getElem_cons hk]
    simp [hk]
  have d : ∀ x, dN s x (rs.getD k (0, 0)).1 (rs.getD k (0, 0)).2 = dS (s / 2) (s % 2) x (rs.getD k (0, 0)) := fun x => rfl
  have n : ∀ x, x < 2 → svF rs (k + 1) (nxN s x) = sv (rs.drop (k + 1)) x (s / 2) := fun x hx => by
    unfold svF nxN
    rw [show (2 * x + s / 2) / 2 = x by omega, show (2 * x + s / 2) % 2 = s / 2 by omega]
  rw [accOf, accOf, accOf, d, d, n 0 (by omega), n 1 (by omega)]
  unfold svF
  rw [e, sv]
  rfl
theorem svF_end (rs : List (Nat × Nat)) (t : Nat) (ht : t < 4) : svF rs rs.length t = if t = 0 then some (0, []) else none := by
  unfold svF
  rw [List.drop_length, sv]
  by_cases h : t = 0
  · subst h; rfl
  · rw [if_neg h, if_neg (by omega)]
theorem svF_le {rs : List (Nat × Nat)} {k t : Nat} {p : Surv} (hr : Pairs2 rs) (hl : rs.length ≤ 42) (ht : t < 4) (h : svF rs k t = some p) : p.1 ≤ 1000 := by
  have := sv_le (by omega) (by omega) (fun q hq => hr q (List.mem_of_mem_drop hq)) h
  have hd : (rs.drop k).length ≤ 42 := by rw [List.length_drop]; omega
  omega

/-- Four pointers as cells. -/
def rowP (p : Nat → Option Addr) : Array Value := #[.pointer (p 0), .pointer (p 1), .pointer (p 2), .pointer (p 3)]
theorem rowP_cell {w : World} {g t : Nat} {p : Nat → Option Addr} (h : w.heap[g]? = some (.cells (rowP p) t (0, 0))) {i : Nat} (hi : i < 4) : w.cell? ⟨g, i, none⟩ = some (.pointer (p i)) := by
  match i, hi with
  | 0, _ | 1, _ | 2, _ | 3, _ => exact cell_of_row _ _ _ _ _ _ h
theorem Node.store {w w' : World} {g : Nat} {q : Option Addr} (hg : w.cell? ⟨g, 1, none⟩ = some (.pointer q)) (hs : w.heap.size ≤ w'.heap.size) (hk : ∀ b o, b ≠ g → w'.cell? ⟨b, o, none⟩ = w.cell? ⟨b, o, none⟩) : ∀ {l : List Nat} {b c : Nat}, Node w b c l → Node w' b c l
  | [], b, c, h => by
    have hne : b ≠ g := fun e => by subst e; rw [h.2] at hg; cases hg
    exact ⟨Nat.lt_of_lt_of_le h.1 hs, (hk _ _ hne).trans h.2⟩
  | _ :: _, b, c, h => by
    obtain ⟨h1, h2, b', c', h3, h4⟩ := h
    have hne : b ≠ g := fun e => by subst e; rw [h1.2] at hg; cases hg
    exact ⟨⟨Nat.lt_of_lt_of_le h1.1 hs, (hk _ _ hne).trans h1.2⟩, (hk _ _ hne).trans h2, b', c', (hk _ _ hne).trans h3, Node.store hg hs hk h4⟩
theorem SvAt.store {w w' : World} {g : Nat} {p : Nat → Option Addr} {t : TypeId} {q : Option Addr} {o : Option Surv} (h : SvAt w q o) (hg : w.heap[g]? = some (.cells (rowP p) t (0, 0))) (hs : w.heap.size ≤ w'.heap.size) (hk : ∀ j, j ≠ g → w'.heap[j]? = w.heap[j]?) : SvAt w' q o := by
  cases o with
  | none => exact h
  | some x =>
    obtain ⟨b, e, hn⟩ := h
    exact ⟨b, e, hn.store (rowP_cell hg (i := 1) (by omega)) hs fun b' o hne => by simp only [World.cell?, hk b' hne]⟩
/-- In the inner loop: the array of the survivors behind, the one that is filled (up to state j), the two bits that are read. -/
def IN (w W : World) (g h R r0 r1 : Nat) (F G : Nat → Option Surv) (pp qq : Nat → Option Addr) (j : Nat) : Prop :=
  ((W.heap[g]? = some (.cells (rowP pp) 76 (0, 0)) ∧ W.heap[h]? = some (.cells (rowP qq) 76 (0, 0)) ∧ W.heap[R]? = some (.cells #[.int .i64 r0, .int .i64 r1] 43 (0, 0))) ∧
    (∀ i, i < 4 → SvAt W (pp i) (F i)) ∧ ∀ i, i < 4 → SvAt W (qq i) (if i < j then G i else none)) ∧
  (g < h ∧ R < h) ∧ (w.heap.size ≤ g ∧ w.heap.size ≤ R) ∧ Below w.heap.size w W
theorem lt_of_heap {W : World} {g : Nat} {o : Obj} (h : W.heap[g]? = some o) : g < W.heap.size := (Array.getElem?_eq_some_iff.1 h).1
theorem IN.next {w W W' : World} {g h R r0 r1 j : Nat} {F G : Nat → Option Surv} {pp qq : Nat → Option Addr} (H : IN w W g h R r0 r1 F G pp qq j) (hb : Below W.heap.size W W') : IN w W' g h R r0 r1 F G pp qq j := by
  obtain ⟨⟨⟨h1, h2, h3⟩, h4, h5⟩, h6, h7, h9⟩ := H
  exact ⟨⟨⟨(hb.block _ (lt_of_heap h1)).trans h1, (hb.block _ (lt_of_heap h2)).trans h2, (hb.block _ (lt_of_heap h3)).trans h3⟩, fun i hi => (h4 i hi).next hb, fun i hi => (h5 i hi).next hb⟩, h6, h7, Below.next h9 (Nat.le_refl _) hb⟩
theorem rowP_set {qq : Nat → Option Addr} {q : Option Addr} {j : Nat} (hj : j < 4) : (rowP qq).setIfInBounds j (.pointer q) = rowP (fun i => if i = j then q else qq i) := by
  match j, hj with
  | 0, _ | 1, _ | 2, _ | 3, _ => rfl
theorem IN.set {w W : World} {g h R r0 r1 j : Nat} {F G : Nat → Option Surv} {pp qq : Nat → Option Addr} {q : Option Addr} (H : IN w W g h R r0 r1 F G pp qq j) (hj : j < 4) (hq : SvAt W q (G j)) :
    IN w (W.setCell ⟨h, j, none⟩ (.pointer q)) g h R r0 r1 F G pp (fun i => if i = j then q else qq i) (j + 1) := by
  obtain ⟨⟨⟨h1, h2, h3⟩, h4, h5⟩, h6, h7, h9⟩ := H
  have hs : (W.setCell ⟨h, j, none⟩ (.pointer q)).heap.size = W.heap.size := by
    rw [setCell_eq_setRow W h j _ _ _ _ h2]; simp [World.setRow]
  have hk : ∀ b, b ≠ h → (W.setCell ⟨h, j, none⟩ (.pointer q)).heap[b]? = W.heap[b]? := fun b hb => Below.heap_setCell W ⟨h, j, none⟩ _ _ hb
  have hbel : Below w.heap.size W (W.setCell ⟨h, j, none⟩ (.pointer q)) := (Below.refl _ _).setCell (by show w.heap.size ≤ h; omega) _
  refine ⟨⟨⟨(hk g (by omega)).trans h1, ?_, (hk R (by omega)).trans h3⟩, fun i hi => (h4 i hi).store h2 (by omega) hk, fun i hi => ?_⟩, h6, h7, h9.trans hbel⟩
  · rw [setCell_eq_setRow W h j _ _ _ _ h2, rowP_set hj]
    exact setRow_heap _ _ _ _ _ _ h2
  · by_cases e : i = j
    · subst e
      simp only [if_true, show i < i + 1 by omega]
      exact hq.store h2 (by omega) hk
    · have := (h5 i hi).store h2 (by omega) hk
      simp only [e, if_false]
      by_cases hlt : i < j
      · simp only [hlt, if_true, show i < j + 1 by omega] at this ⊢
        exact this
      · simp only [hlt, if_false, show ¬ i < j + 1 by omega] at this ⊢
        exact this
end Go.Proofs.YtnjjblcigcblhaaDoor
