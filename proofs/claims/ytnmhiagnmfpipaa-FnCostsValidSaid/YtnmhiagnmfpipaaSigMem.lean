/-
  What a slice of samples holds in a world, lists of samples of a call's own, and what a call leaves that makes one. No condition; plain lemmas.
-/
import Derived.Test.YtnmhiagnmfpipaaSigMath
import Derived.Test.YtnmhiagnmfpipaaOne
namespace Go.Proofs.Ytnmhiagnmfpipaa
open Go.RowKit

/-- The slice that begins at `a` holds the samples `ps`, in a block below `B`; nothing is said of an empty one. -/
def Sigs (w : World) (B : Nat) (a : Option Addr) (ps : List Smp) : Prop :=
  ps ≠ [] → ∃ b off, a = some ⟨b, off, none⟩ ∧ b < B ∧ ∀ i, i < ps.length → w.cell? ⟨b, off + i * 2, none⟩ = some (.int .i64 (sI ps i)) ∧ w.cell? ⟨b, off + i * 2 + 1, none⟩ = some (.int .i64 (sQ ps i))
section
variable {w w' : World} {B B' C D E : Nat} {a : Option Addr} {ps : List Smp}
theorem Sigs.nil : Sigs w B a [] := fun h => absurd rfl h
theorem Sigs.at_ (h : Sigs w B a ps) {i : Nat} (hi : i < ps.length) :
    ∃ b off, a = some ⟨b, off, none⟩ ∧ b < B ∧ w.cell? ⟨b, off + i * 2, none⟩ = some (.int .i64 (sI ps i)) ∧ w.cell? ⟨b, off + i * 2 + 1, none⟩ = some (.int .i64 (sQ ps i)) := by
  obtain ⟨b, off, e, hb, hc⟩ := h (by intro e; subst e; simp at hi)
  exact ⟨b, off, e, hb, hc i hi⟩
theorem Sigs.keep (h : Sigs w B a ps) (hk : ∀ p : Addr, p.block < B → w'.cell? p = w.cell? p) : Sigs w' B a ps := fun hn => by
  obtain ⟨b, off, e, hb, hc⟩ := h hn
  exact ⟨b, off, e, hb, fun i hi => ⟨(hk _ hb).trans (hc i hi).1, (hk _ hb).trans (hc i hi).2⟩⟩
theorem Sigs.more (h : Sigs w B a ps) (hB : B ≤ B') : Sigs w B' a ps := fun hn => by
  obtain ⟨b, off, e, hb, hc⟩ := h hn
  exact ⟨b, off, e, Nat.lt_of_lt_of_le hb hB, hc⟩
theorem Sigs.below (h : Sigs w B a ps) (hb : Below B w w') : Sigs w' B a ps := h.keep fun _ hp => hb.cell hp
theorem Sigs.drewN (h : Sigs w B a ps) (n : Nat) : Sigs (w.drewN n) B a ps := h
theorem Sigs.next (h : Sigs w w.heap.size a ps) (hb : Below w.heap.size w w') : Sigs w' w'.heap.size a ps := (h.below hb).more hb.size
theorem Sigs.out (h : Sigs w B a ps) (hk : KeptOut D E w w') (hd : B ≤ D) (hB : B ≤ w.heap.size) : Sigs w' B a ps :=
  h.below ⟨hk.os, hk.tape, hk.output, hk.size, fun j hj => hk.block j (by omega) (.inl (by omega))⟩
theorem Sigs.take (h : Sigs w B a ps) (m : Nat) : Sigs w B a (ps.take m) := fun hne => by
  have h0 : ps ≠ [] := fun e => hne (by simp [e])
  obtain ⟨b, off, e, hb, hc⟩ := h h0
  refine ⟨b, off, e, hb, fun i hi => ?_⟩
  rw [List.length_take] at hi
  have e1 : sp (ps.take m) i = sp ps i := by simp [sp, List.getD, show i < m by omega]
  unfold sI sQ
  rw [e1]
  exact hc i (by omega)
theorem Sigs.drop {b off : Nat} (h : Sigs w B (some ⟨b, off, none⟩) ps) (m : Nat) : Sigs w B (some ⟨b, off + m * 2, none⟩) (ps.drop m) := fun hne => by
  have h0 : ps ≠ [] := fun e => hne (by simp [e])
  obtain ⟨b', off', e, hb, hc⟩ := h h0
  injection e with e
  injection e with e1 e2
  subst e1 e2
  refine ⟨_, _, rfl, hb, fun i hi => ?_⟩
  rw [List.length_drop] at hi
  have e1 : sp (ps.drop m) i = sp ps (m + i) := by simp [sp, List.getD, List.getElem?_drop]
  unfold sI sQ
  rw [e1, show off + m * 2 + i * 2 = off + (m + i) * 2 by omega]
  exact hc (m + i) (by omega)
end

/-- The list ps lies in a block of its own from B on and before C; it may be written. -/
def OwnSig (t : TypeId) (w : World) (B C : Nat) (a : Option Addr) (ps : List Smp) : Prop :=
  ps ≠ [] → ∃ b cap f, a = some ⟨b, 0, none⟩ ∧ B ≤ b ∧ b < C ∧ ps.length * 2 ≤ cap ∧ w.rowIs b t cap f ∧ ∀ i, i < ps.length → f (i * 2) = .int .i64 (sI ps i) ∧ f (i * 2 + 1) = .int .i64 (sQ ps i)
section
variable {t : TypeId} {w w' : World} {B C D E : Nat} {a : Option Addr} {ps : List Smp}
theorem OwnSig.keep (h : OwnSig t w B C a ps) (hk : KeptOut D E w w') (hd : C ≤ D ∨ E ≤ B) : OwnSig t w' B C a ps := fun hne => by
  obtain ⟨b, cap, f, e, h1, h2, h3, h4, h5⟩ := h hne
  exact ⟨b, cap, f, e, h1, h2, h3, h4.of_block (hk.block b h4.lt (by omega)), h5⟩
theorem OwnSig.next (h : OwnSig t w B C a ps) (hb : Below w.heap.size w w') : OwnSig t w' B C a ps := h.keep (KeptOut.of_below (B := C) (C := C) hb) (.inl (Nat.le_refl _))
theorem OwnSig.drewN (h : OwnSig t w B C a ps) (n : Nat) : OwnSig t (w.drewN n) B C a ps := h
theorem OwnSig.sigs (h : OwnSig t w B C a ps) : Sigs w C a ps := fun hne => by
  obtain ⟨b, cap, f, e, h1, h2, h3, h4, h5⟩ := h hne
  refine ⟨b, 0, e, h2, fun i hi => ?_⟩
  rw [Nat.zero_add, h4.cell (by omega), h4.cell (by omega), (h5 i hi).1, (h5 i hi).2]
  exact ⟨rfl, rfl⟩
theorem OwnSig.nil : OwnSig t w B C a [] := fun h => absurd rfl h
end
/-- Cell j of a row that holds the samples. -/
def smpAt (ps : List Smp) (j : Nat) : Value := if j % 2 = 0 then .int .i64 (sI ps (j / 2)) else .int .i64 (sQ ps (j / 2))
theorem smpAt_I (ps : List Smp) (i : Nat) : smpAt ps (i * 2) = .int .i64 (sI ps i) := by simp [smpAt]
theorem smpAt_Q (ps : List Smp) (i : Nat) : smpAt ps (i * 2 + 1) = .int .i64 (sQ ps i) := by
  have h1 : (i * 2 + 1) % 2 = 1 := by omega
  have h2 : (i * 2 + 1) / 2 = i := by omega
  simp [smpAt, h1, h2]
theorem ownSig_row {t : TypeId} {w : World} {b n C : Nat} {ps : List Smp} (h : w.rowIs b t n (smpAt ps)) (hn : n = ps.length * 2) (hC : b < C) : OwnSig t w b C (some ⟨b, 0, none⟩) ps := fun _ =>
  ⟨b, n, _, rfl, Nat.le_refl _, hC, by omega, h, fun i _ => ⟨smpAt_I _ _, smpAt_Q _ _⟩⟩

/-- What a call leaves that returns a new list of samples. -/
def SigPost (t : TypeId) (ps : List Smp) (w : World) (e : Ending) (w' : World) : Prop :=
  ∃ a cap, e = .returned (.slice a ps.length cap) ∧ (ps.length ≤ cap ∧ cap ≤ maxLen) ∧ OwnSig t w' w.heap.size w'.heap.size a ps ∧ Below w.heap.size w w'
theorem sigPost_nil {t : TypeId} {w w' : World} (h : Below w.heap.size w w') : SigPost t [] w (.returned (.slice none 0 0)) w' := ⟨none, 0, rfl, ⟨Nat.le_refl _, Nat.zero_le _⟩, OwnSig.nil, h⟩

/-- The cells of a list of samples. -/
def smpCells (ps : List Smp) : List Value := ps.flatMap fun p => [.int .i64 p.1, .int .i64 p.2]
theorem smpCells_length (ps : List Smp) : (smpCells ps).length = ps.length * 2 := by
  induction ps with
  | nil => rfl
  | cons p ps ih => rw [smpCells, List.flatMap_cons, List.length_append, ← smpCells, ih, List.length_cons]; simp; omega
theorem smpCells_snoc (ps : List Smp) (p : Smp) : smpCells (ps ++ [p]) = smpCells ps ++ [.int .i64 p.1, .int .i64 p.2] := by simp [smpCells]
theorem smpCells_append (ps qs : List Smp) : smpCells (ps ++ qs) = smpCells ps ++ smpCells qs := by simp [smpCells]
theorem smpCells_at : ∀ (ps : List Smp) (i : Nat), i < ps.length → (smpCells ps)[i * 2]? = some (.int .i64 (sI ps i)) ∧ (smpCells ps)[i * 2 + 1]? = some (.int .i64 (sQ ps i))
  | [], i, h => by simp at h
  | p :: ps, 0, _ => ⟨rfl, rfl⟩
  | p :: ps, i + 1, h => by
    have ih := smpCells_at ps i (by simpa using h)
    have e : smpCells (p :: ps) = .int .i64 p.1 :: .int .i64 p.2 :: smpCells ps := rfl
    rw [e, show (i + 1) * 2 = i * 2 + 1 + 1 by omega]
    exact ih
/-- The slice value (address a, n samples, room for cap) is the call's own, from block `base` on, and holds ps. -/
def GrowS (t : TypeId) (w : World) (base : Nat) (a : Option Addr) (n cap : Nat) (ps : List Smp) : Prop :=
  w.ownsRow base t 2 (.slice a n cap) n (smpCells ps)
section
variable {t : TypeId} {w w' : World} {base n cap : Nat} {a : Option Addr} {ps : List Smp}
theorem GrowS.len (h : GrowS t w base a n cap ps) : ps.length = n := by
  have := h.1
  rw [smpCells_length] at this
  omega
theorem GrowS.own (h : GrowS t w base a n cap ps) : ∀ b, Value.ownBlock (.slice a n cap) = some b → base ≤ b := by
  intro b hb
  rcases h.2 with ⟨e, _⟩ | ⟨g, c, cur, e, hg, _⟩
  · rw [e] at hb; simp [Value.ownBlock] at hb
  · rw [e] at hb; simp [Value.ownBlock] at hb; omega
theorem GrowS.drewN (h : GrowS t w base a n cap ps) (m : Nat) : GrowS t (w.drewN m) base a n cap ps := h
theorem GrowS.drew (h : GrowS t w base a n cap ps) : GrowS t w.drew base a n cap ps := h
theorem GrowS.row (h : GrowS t w base a n cap ps) (hp : 0 < n) : ∃ b f, a = some ⟨b, 0, none⟩ ∧ base ≤ b ∧ b < w.heap.size ∧ n ≤ cap ∧ w.rowIs b t (cap * 2) f ∧ ∀ i, i < n → f (i * 2) = .int .i64 (sI ps i) ∧ f (i * 2 + 1) = .int .i64 (sQ ps i) := by
  rcases h.2 with ⟨_, h0⟩ | ⟨g, c, cur, e, hg, hh, hnc, hcm, hcs, htk⟩
  · omega
  · injection e with e1 e2 e3
    subst e1 e3
    have hlen := h.len
    refine ⟨g, fun i => cur.getD i undef, rfl, hg, (Array.getElem?_eq_some_iff.1 hh).1, hnc, ⟨cur, hh, hcs, fun i hi => ?_⟩, fun i hi => ?_⟩
    · simp [show i < cur.size by omega]
    · obtain ⟨c1, c2⟩ := smpCells_at ps i (by omega)
      rw [← htk, List.getElem?_take, if_pos (by omega)] at c1 c2
      have hi1 : i * 2 < cur.size := by omega
      have hi2 : i * 2 + 1 < cur.size := by omega
      simp [hi1] at c1
      simp [hi2] at c2
      simp [hi1, hi2, c1, c2]
theorem GrowS.sigs (h : GrowS t w base a n cap ps) : Sigs w w.heap.size a ps := fun hne => by
  have hlen := h.len
  have hp : 0 < n := by rw [← hlen]; exact List.length_pos_iff.2 hne
  obtain ⟨b, f, rfl, _, hb, hc, hr, hf⟩ := h.row hp
  refine ⟨b, 0, rfl, hb, fun i hi => ?_⟩
  rw [Nat.zero_add, hr.cell (by omega), hr.cell (by omega), (hf i (by omega)).1, (hf i (by omega)).2]
  exact ⟨rfl, rfl⟩
theorem GrowS.keep (h : GrowS t w base a n cap ps) (hk : ∀ b, base ≤ b → b < w.heap.size → w'.heap[b]? = w.heap[b]?) : GrowS t w' base a n cap ps := by
  refine ⟨h.1, ?_⟩
  rcases h.2 with h0 | ⟨g, c, cur, e, hg, hh, rest⟩
  · exact .inl h0
  · exact .inr ⟨g, c, cur, e, hg, (hk g hg (Array.getElem?_eq_some_iff.1 hh).1).trans hh, rest⟩
theorem GrowS.alloc (h : GrowS t w base a n cap ps) (o : Obj) : GrowS t (w.alloc o) base a n cap ps := h.keep fun b _ hb => Below.heap_alloc w o b hb
theorem GrowS.below (h : GrowS t w base a n cap ps) (hb : Below w.heap.size w w') : GrowS t w' base a n cap ps := h.keep fun b _ hlt => hb.block b hlt
theorem GrowS.grownR {R : Nat} (h : GrowS t w base a n cap ps) (hg : w.grownBy w' (some R)) (hR : R < base) : GrowS t w' base a n cap ps := h.keep fun b hb hlt => hg.block b hlt (fun e => by injection e; omega)
theorem GrowS.room (h : GrowS t w base a n cap ps) : n ≤ cap ∧ cap ≤ maxLen := by
  rcases h.2 with ⟨e, h0⟩ | ⟨g, c, cur, e, hg, hh, hnc, hcm, _⟩
  · injection e with _ _ e3; rw [h0, e3]; exact ⟨Nat.le_refl _, Nat.zero_le _⟩
  · injection e with _ _ e3; rw [e3]; exact ⟨hnc, hcm⟩
end
theorem GrowS.lit0 (t : TypeId) (w : World) (base : Nat) (hb : base ≤ w.heap.size) : GrowS t (w.alloc (.cells #[] t)) base (some ⟨w.heap.size, 0, none⟩) 0 0 [] :=
  ⟨rfl, .inr ⟨w.heap.size, 0, #[], rfl, hb, heap_alloc_last _ _, Nat.le_refl _, by simp, by simp, rfl⟩⟩
theorem sigPost_grow {t : TypeId} {ps : List Smp} {w w' : World} {a : Option Addr} {n cap : Nat} (h : GrowS t w' w.heap.size a n cap ps) (hb : Below w.heap.size w w') : SigPost t ps w (.returned (.slice a n cap)) w' := by
  have hr := h.room
  have hl := h.len
  refine ⟨a, cap, by rw [hl], ⟨by rw [hl]; exact hr.1, hr.2⟩, fun hne => ?_, hb⟩
  have hp : 0 < n := by rw [← hl]; exact List.length_pos_iff.2 hne
  obtain ⟨b, f, rfl, h1, h2, h3, h4, h5⟩ := h.row hp
  exact ⟨b, cap * 2, f, rfl, h1, h2, by omega, h4, fun i hi => h5 i (by omega)⟩
theorem growS_of_own {t : TypeId} {w w' : World} {base n cap m : Nat} {a : Option Addr} {ps qs : List Smp} {v' : Value}
    (h : GrowS t w base a n cap ps) (hb : base ≤ w.heap.size) (h2 : w'.ownsRow base t 2 v' (n + m) (smpCells ps ++ smpCells qs)) (h3 : w.grownBy w' (Value.ownBlock (.slice a n cap))) :
    (∃ a' cap', v' = .slice a' (n + m) cap' ∧ GrowS t w' base a' (n + m) cap' (ps ++ qs)) ∧ Below base w w' := by
  refine ⟨?_, (Below.refl _ _).grown h3 hb h.own⟩
  rw [← smpCells_append] at h2
  rcases h2.2 with ⟨e, h0⟩ | ⟨g, c, cur, e, _⟩
  · subst e
    refine ⟨none, 0, by rw [h0], ?_⟩
    unfold GrowS
    rw [h0] at h2 ⊢
    exact h2
  · subst e
    exact ⟨_, _, rfl, h2⟩
theorem smpCells_one {p : Smp} {w : World} {ad : Addr} (h0 : w.cell? ad = some (.int .i64 p.1)) (h1 : w.cell? (ad.add 1) = some (.int .i64 p.2)) : ∀ j u, (smpCells [p])[j]? = some u → w.cell? (ad.add j) = some u := by
  intro j u hj
  match j, hj with
  | 0, hj => simp [smpCells] at hj; subst hj; simpa [Addr.add] using h0
  | 1, hj => simp [smpCells] at hj; subst hj; exact h1
section
variable {w : World} {ops : Array Oper} {rest : List Oper} {o : Oper} {a : Act} {Q : Exit → Act → World → Prop}
end
end Go.Proofs.Ytnmhiagnmfpipaa
