/-
  Tables of costs: when they are valid; what the search for least costs leaves; the next station, least costs and next stations as the code answers. Condition: rows that can be read; of the parts: a valid table.
-/
import Derived.Test.YtnmhiagnmfpipaaRteMath
import Derived.Test.YtnmhiagnmfpipaaRowsI
import Derived.Test.YtnmhiagnmfpipaaRteQ
import Derived.Test.YtnmhiagnmfpipaaAcc9
import Derived.BigQuiet
namespace Go.Proofs.Ytnmhiagnmfpipaa
open Go.RowKit

/-- Row i of a table of n stations. -/
def CoIn (n : Nat) (g : List Int) : Prop := ∀ j, j < n → 0 ≤ el g j ∧ el g j ≤ 100
def CoOk (n i : Nat) (g : List Int) : Prop := g.length = n ∧ CoIn n g ∧ el g i = 0
def CosTo (R : List (List Int)) (k : Nat) : Prop := ∀ i, i < k → CoOk R.length i (rwI R i)
def TiOk (R : List (List Int)) : Prop := R.length ≤ 10 ∧ CosTo R R.length
instance (n : Nat) (g : List Int) : Decidable (CoIn n g) := inferInstanceAs (Decidable (∀ j, j < n → 0 ≤ el g j ∧ el g j ≤ 100))
instance (n i : Nat) (g : List Int) : Decidable (CoOk n i g) := inferInstanceAs (Decidable (_ ∧ _ ∧ _))
instance (R : List (List Int)) (k : Nat) : Decidable (CosTo R k) := inferInstanceAs (Decidable (∀ i, i < k → CoOk R.length i (rwI R i)))
instance (R : List (List Int)) : Decidable (TiOk R) := inferInstanceAs (Decidable (_ ∧ _))
/-- The cost of a link. -/
def tg (R : List (List Int)) (i j : Nat) : Int := el (rwI R i) j
theorem coIn_next {k : Nat} {g : List Int} (h : CoIn k g) (h1 : 0 ≤ el g k ∧ el g k ≤ 100) : CoIn (k + 1) g := fun j hj => by
  rcases Nat.lt_succ_iff_lt_or_eq.1 hj with h2 | rfl
  · exact h j h2
  · exact h1
theorem cosTo_next {R : List (List Int)} {k : Nat} (h : CosTo R k) (h1 : CoOk R.length k (rwI R k)) : CosTo R (k + 1) := fun j hj => by
  rcases Nat.lt_succ_iff_lt_or_eq.1 hj with h2 | rfl
  · exact h j h2
  · exact h1
/-- A station's number is valid; both ends of a link are. -/
def StOk (n : Nat) (t : Int) : Prop := 0 ≤ t ∧ t ≤ (n : Int) - 1
instance (n : Nat) (t : Int) : Decidable (StOk n t) := inferInstanceAs (Decidable (_ ∧ _))
theorem stOk_nat {n : Nat} {t : Int} (h : StOk n t) : ∃ k : Nat, t = k ∧ k < n := ⟨t.toNat, by have := h.1; omega, by have := h.1; have := h.2; omega⟩
def EndsOk (R : List (List Int)) (f t : Int) : Prop := TiOk R ∧ StOk R.length f ∧ StOk R.length t
instance (R : List (List Int)) (f t : Int) : Decidable (EndsOk R f t) := inferInstanceAs (Decidable (_ ∧ _ ∧ _))
theorem tiOk_row {R : List (List Int)} (h : TiOk R) {i : Nat} (hi : i < R.length) : (rwI R i).length = R.length := (h.2 i hi).1
theorem tiOk_in {R : List (List Int)} (h : TiOk R) {i j : Nat} (hi : i < R.length) (hj : j < R.length) : 0 ≤ tg R i j ∧ tg R i j ≤ 100 := (h.2 i hi).2.1 j hj
theorem tiOk_self {R : List (List Int)} (h : TiOk R) {i : Nat} (hi : i < R.length) : tg R i i = 0 := (h.2 i hi).2.2
set_option maxRecDepth 10000 in
set_option maxHeartbeats 1000000 in
theorem linkCosts_any (a : Option Addr) (c B : Nat) (g : List Int) (i n : Nat) (b : Bool) (w : World) (hx : Ints .i64 w B a g) (hi : i < n) (hn : n ≤ 10) (hb : decide (CoOk n i g) = b) :
    Calls Try.prog 44 #[.slice a g.length c, .int .i64 (i : Int), .int .i64 (n : Int)] w fun e w' => e = .returned (.bool b) ∧ w = w' := by
  subst hb
  have HX := Lib.hid hx
  clear hx
  by_cases hl : g.length = n
  · subst hl
    have hl' : ((g.length : Int) != (g.length : Int)) = false := by simp
    go_enter Try.func44, Try.ntmps44
    go_wp2
    clear hl'
    go_loop [15] (fun x => ∃ k : Nat, k ≤ g.length ∧ x = .int .i64 k ∧ CoIn k g) (fun x => g.length - (intOf x).toNat)
    case atStart => exact ⟨0, Nat.zero_le _, rfl, fun i hi => absurd hi (by omega)⟩
    case round =>
      obtain ⟨k, hk, rfl, hgood⟩ := hrel
      have HG := Lib.hid hgood
      clear hgood
      by_cases hlt : k < g.length
      · obtain ⟨b, off, rfl, hb, hc⟩ := HX.out.at_ hlt
        by_cases h1 : 0 ≤ el g k ∧ el g k ≤ 100
        · have HI := Lib.hid (fun W => isBetween_is (el g k) 0 100 true W (decide_eq_true h1))
          have HE := Lib.hid (coIn_next HG.out h1)
          clear h1
          go_wp2_with (go_at_call 58; ((with_reducible refine (HI.out _).mono ?_); rintro e w1 ⟨rfl, rfl⟩))
          go_round
          case rel => exact ⟨k + 1, by omega, by go_num, HE.out⟩
          case measure => simp [intOf]; omega
        · have HI := Lib.hid (fun W => isBetween_is (el g k) 0 100 false W (decide_eq_false h1))
          have HE : Hid (decide (CoOk g.length i g) = false) := decide_eq_false fun h => h1 (h.2.1 k hlt)
          clear h1
          go_wp2_with (go_at_call 58; ((with_reducible refine (HI.out _).mono ?_); rintro e w1 ⟨rfl, rfl⟩))
          go_ret
          exact ⟨ret_bool HE.out.symm, rfl⟩
      · obtain rfl : g.length = k := by omega
        obtain ⟨b, off, rfl, hb, hc⟩ := HX.out.at_ hi
        have HE : Hid ((el g i == 0) = decide (CoOk g.length i g)) := by
          show (el g i == 0) = decide (CoOk g.length i g)
          rw [Bool.beq_eq_decide_eq, decide_eq_decide]
          exact ⟨fun h => ⟨rfl, HG.out, h⟩, fun h => h.2.2⟩
        go_wp2
        go_ret
        exact ⟨ret_bool HE.out, rfl⟩
  · have hl' : ((g.length : Int) != (n : Int)) = true := by simp; omega
    have HE : Hid (decide (CoOk n i g) = false) := decide_eq_false fun h => hl h.1
    clear hl
    go_enter Try.func44, Try.ntmps44
    go_wp2
    go_ret
    exact ⟨ret_bool HE.out.symm, rfl⟩
set_option maxRecDepth 10000 in
set_option maxHeartbeats 2000000 in
theorem costsValid_is (a : Option Addr) (c B : Nat) (R : List (List Int)) (b : Bool) (w : World) (hr : RowsL w B a R) (hb : decide (TiOk R) = b) :
    Calls Try.prog 16 #[.slice a R.length c] w fun e w' => e = .returned (.bool b) ∧ w = w' := by
  subst hb
  have HR := Lib.hid hr
  clear hr
  by_cases h1 : R.length ≤ 10
  · have h1' : ¬ (10 : Int) < (R.length : Int) := by omega
    have HE : Hid (CosTo R R.length → TiOk R) := fun h => ⟨h1, h⟩
    go_enter Try.func16, Try.ntmps16
    go_wp2
    clear h1'
    go_loop [10] (fun x => ∃ k : Nat, k ≤ R.length ∧ x = .int .i64 k ∧ CosTo R k) (fun x => R.length - (intOf x).toNat)
    case atStart => exact ⟨0, Nat.zero_le _, rfl, fun i hi => absurd hi (by omega)⟩
    case round =>
      obtain ⟨k, hk, rfl, hgood⟩ := hrel
      have HG := Lib.hid hgood
      clear hgood
      by_cases hlt : k < R.length
      · obtain ⟨b, off, ad, cp, rfl, hrow, _, _, hin⟩ := HR.out.at_ hlt
        by_cases h4 : CoOk R.length k (rwI R k)
        · have HI := Lib.hid (fun W (h : Ints .i64 W B ad (rwI R k)) => linkCosts_any ad cp B (rwI R k) k R.length true W h hlt h1 (decide_eq_true h4))
          have HT := Lib.hid (cosTo_next HG.out h4)
          have HIN := Lib.hid hin
          clear h4 hin
          go_wp2_with (go_at_call 44; ((with_reducible refine (HI.out _ HIN.out).mono ?_); rintro e w1 ⟨rfl, rfl⟩))
          go_round
          case rel => exact ⟨k + 1, by omega, by go_num, HT.out⟩
          case measure => simp [intOf]; omega
        · have HI := Lib.hid (fun W (h : Ints .i64 W B ad (rwI R k)) => linkCosts_any ad cp B (rwI R k) k R.length false W h hlt h1 (decide_eq_false h4))
          have HF : Hid (decide (TiOk R) = false) := decide_eq_false fun h => h4 (h.2 k hlt)
          have HIN := Lib.hid hin
          clear h4 hin
          go_wp2_with (go_at_call 44; ((with_reducible refine (HI.out _ HIN.out).mono ?_); rintro e w1 ⟨rfl, rfl⟩))
          go_ret
          exact ⟨ret_bool HF.out.symm, rfl⟩
      · obtain rfl : R.length = k := by omega
        have HF : Hid (decide (TiOk R) = true) := decide_eq_true (HE.out HG.out)
        go_wp2
        go_ret
        exact ⟨ret_bool HF.out.symm, rfl⟩
  · have h1' : (10 : Int) < (R.length : Int) := by omega
    have HF : Hid (decide (TiOk R) = false) := decide_eq_false fun h => h1 h.1
    clear h1
    go_enter Try.func16, Try.ntmps16
    go_wp2
    go_ret
    exact ⟨ret_bool HF.out.symm, rfl⟩
set_option maxRecDepth 10000 in
theorem isStation_is (a : Option Addr) (n c : Nat) (t : Int) (b : Bool) (w : World) (hn : n ≤ 10) (hb : decide (StOk n t) = b) :
    Calls Try.prog 48 #[.slice a n c, .int .i64 t] w fun e w' => e = .returned (.bool b) ∧ w = w' := by
  have r1 := wrapW (n := (n : Int) - 1) (by omega)
  have r1' := wrapW' (n := (n : Int) - 1) (by omega)
  have HI := Lib.hid (fun W => isBetween_is t 0 ((n : Int) - 1) b W hb)
  clear hb
  go_enter Try.func48, Try.ntmps48
  go_wp2_with (go_at_call 58; ((with_reducible refine (HI.out _).mono ?_); rintro e w1 ⟨rfl, rfl⟩))
  go_ret
  exact ⟨rfl, rfl⟩
set_option maxRecDepth 10000 in
theorem linkEnds_is (a : Option Addr) (c B : Nat) (R : List (List Int)) (f t : Int) (b : Bool) (w : World) (hr : RowsL w B a R) (hb : decide (EndsOk R f t) = b) :
    Calls Try.prog 52 #[.slice a R.length c, .int .i64 f, .int .i64 t] w fun e w' => e = .returned (.bool b) ∧ w = w' := by
  have HR := Lib.hid hr
  by_cases h1 : TiOk R
  · have H1 := Lib.hid (costsValid_is a c B R true w hr (decide_eq_true h1))
    have hn := h1.1
    by_cases h2 : StOk R.length f
    · have H2 := Lib.hid (fun W => isStation_is a R.length c f true W hn (decide_eq_true h2))
      by_cases h3 : StOk R.length t
      · have H3 := Lib.hid (fun W => isStation_is a R.length c t true W hn (decide_eq_true h3))
        have e : b = true := by rw [← hb]; exact decide_eq_true ⟨h1, h2, h3⟩
        subst e
        clear hb h1 h2 h3 hr
        go_enter Try.func52, Try.ntmps52
        go_wp2_with (first | (go_at_call 16; ((with_reducible refine H1.out.mono ?_); rintro e w1 ⟨rfl, rfl⟩; have G2 := H2)) | (go_at_call 48; first | ((with_reducible refine (G2.out _).mono ?_); rintro e w1 ⟨rfl, rfl⟩) | ((with_reducible refine (H3.out _).mono ?_); rintro e w1 ⟨rfl, rfl⟩)))
        go_ret
        exact ⟨rfl, rfl⟩
      · have H3 := Lib.hid (fun W => isStation_is a R.length c t false W hn (decide_eq_false h3))
        have e : b = false := by rw [← hb]; exact decide_eq_false fun h => h3 h.2.2
        subst e
        clear hb h1 h2 h3 hr
        go_enter Try.func52, Try.ntmps52
        go_wp2_with (first | (go_at_call 16; ((with_reducible refine H1.out.mono ?_); rintro e w1 ⟨rfl, rfl⟩; have G2 := H2)) | (go_at_call 48; first | ((with_reducible refine (G2.out _).mono ?_); rintro e w1 ⟨rfl, rfl⟩) | ((with_reducible refine (H3.out _).mono ?_); rintro e w1 ⟨rfl, rfl⟩)))
        go_ret
        exact ⟨rfl, rfl⟩
    · have H2 := Lib.hid (fun W => isStation_is a R.length c f false W hn (decide_eq_false h2))
      have e : b = false := by rw [← hb]; exact decide_eq_false fun h => h2 h.2.1
      subst e
      clear hb h1 h2 hr
      go_enter Try.func52, Try.ntmps52
      go_wp2_with (first | (go_at_call 16; ((with_reducible refine H1.out.mono ?_); rintro e w1 ⟨rfl, rfl⟩)) | (go_at_call 48; ((with_reducible refine (H2.out _).mono ?_); rintro e w1 ⟨rfl, rfl⟩)))
      go_ret
      exact ⟨rfl, rfl⟩
  · have H1 := Lib.hid (costsValid_is a c B R false w hr (decide_eq_false h1))
    have e : b = false := by rw [← hb]; exact decide_eq_false fun h => h1 h.1
    subst e
    clear hb h1 hr
    go_enter Try.func52, Try.ntmps52
    go_wp2_with (go_at_call 16; ((with_reducible refine H1.out.mono ?_); rintro e w1 ⟨rfl, rfl⟩))
    go_ret
    exact ⟨rfl, rfl⟩

/-- Costs as a list. -/
def ccL (C : Nat → Int) (n : Nat) : List Int := (List.range n).map C
theorem ccL_len (C : Nat → Int) (n : Nat) : (ccL C n).length = n := by simp [ccL]
theorem ccL_el {C : Nat → Int} {n i : Nat} (h : i < n) : el (ccL C n) i = C i := by simp [ccL, el, h]
theorem ccL_congr {C C' : Nat → Int} {n : Nat} (h : ∀ i, i < n → C i = C' i) : ccL C n = ccL C' n := List.map_congr_left fun i hi => h i (List.mem_range.1 hi)
theorem ccL_set {C : Nat → Int} {n x : Nat} (d : Int) (_hx : x < n) : (ccL C n).set x d = ccL (fun i => if i = x then d else C i) n := by
  refine list_ext9 (by simp [ccL]) fun i hi => ?_
  rw [List.length_set, ccL_len] at hi
  by_cases e : i = x
  · subst e; simp [ccL, el, hi]
  · have e2 : x ≠ i := fun h => e h.symm
    simp only [el, List.getD_eq_getElem?_getD, List.getElem?_set_ne e2]
    simp [ccL, hi, e]
theorem ccL_new (n : Nat) : List.replicate n (-1 : Int) = ccL (fun _ => -1) n := by simp [ccL, List.map_const']
/-- The least costs to a station. -/
def lcL (R : List (List Int)) (to : Nat) : List Int := ccL (itD (tg R) R.length to R.length) R.length
theorem lcL_len (R : List (List Int)) (to : Nat) : (lcL R to).length = R.length := ccL_len _ _
theorem lcL_is (R : List (List Int)) (to : Nat) : IsD (tg R) R.length to (el (lcL R to)) := (itD_is (tg R) R.length to).congr fun _ hi => (ccL_el hi).symm
theorem lcL_of {R : List (List Int)} {to : Nat} {C : Nat → Int} (h : IsD (tg R) R.length to C) : ccL C R.length = lcL R to := ccL_congr (h.unique (itD_is _ _ _))
/-- The paths of the queue. -/
def inPQ (L : List Smp) (i : Nat) (c : Int) : Prop := ((i : Int), c) ∈ L
def natQ (L : List Smp) : Prop := ∀ p ∈ L, ∃ i : Nat, p.1 = (i : Int)
/-- What is left to do: read out of memory. -/
def cvN (W : World) (b i : Nat) : Int := match W.cell? ⟨b, i, none⟩ with
  | some (.int _ v) => v
  | _ => 0
def qvN (W : World) (v : Nat) : Nat := match W.cell? ⟨v, 0, none⟩ with
  | some (.slice _ n _) => n
  | _ => 0
def rtMeas (s v n : Nat) (W : World) : Nat := unN (cvN W s) n * (n + 1) + qvN W v
theorem rtMeas_is {W : World} {s D v b cap n : Nat} {C : Nat → Int} {L : List Smp} (hr : RowX W s (ccL C n)) (hq : PV W D v b cap L) : rtMeas s v n W = unN C n * (n + 1) + L.length := by
  have h1 : unN (cvN W s) n = unN C n := unN_congr fun i hi => by
    unfold cvN
    rw [hr.cell (k := i) (by rw [ccL_len]; exact hi), ccL_el hi]
  have h2 : qvN W v = L.length := by unfold qvN; rw [hq.cell]
  unfold rtMeas
  rw [h1, h2]
theorem RowX.keepQ {W W' : World} {s b v : Nat} {xs : List Int} (h : RowX W s xs) (hk : KeptQ b v W W') (hb : s ≠ b) (hv : s ≠ v) : RowX W' s xs := World.rowIs.of_block h (hk.block s h.lt hb hv)
/-- A path in a box of its own. -/
def PtBox (W : World) (p : Nat) (x d : Int) : Prop := p < W.heap.size ∧ W.cell? ⟨p, 0, none⟩ = some (.int .i64 x) ∧ W.cell? ⟨p, 1, none⟩ = some (.int .i64 d)
theorem ptBox_new (w : World) (x d : Int) (t : TypeId) : PtBox (w.alloc (.cells #[.int .i64 x, .int .i64 d] t)) w.heap.size x d :=
  ⟨by simp, cell_of_row _ _ 0 _ _ _ (heap_alloc_last _ _), cell_of_row _ _ 1 _ _ _ (heap_alloc_last _ _)⟩
theorem PtBox.keep {W W' : World} {p : Nat} {x d : Int} (h : PtBox W p x d) (hs : W.heap.size ≤ W'.heap.size) (hk : W'.heap[p]? = W.heap[p]?) : PtBox W' p x d :=
  ⟨Nat.lt_of_lt_of_le h.1 hs, by rw [World.cell?_of_block hk]; exact h.2.1, by rw [World.cell?_of_block hk]; exact h.2.2⟩
theorem pop_skip {g : Nat → Nat → Int} {n to x : Nat} {C : Nat → Int} {L M : List Smp} {d : Int} (h : Lz g n to C (inPQ L) n 0) (hp : L.Perm (M ++ [((x : Int), d)])) (hx : 0 ≤ C x) : Lz g n to C (inPQ M) n 0 :=
  h.skip hx (fun i c hm => hp.mem_iff.2 (List.mem_append_left _ hm)) (fun i c hm => by
    rcases List.mem_append.1 (hp.mem_iff.1 hm) with h1 | h1
    · exact .inl h1
    · rw [List.mem_singleton, Prod.mk.injEq] at h1
      exact .inr (by omega))
theorem pop_settle {g : Nat → Nat → Int} {n to x : Nat} {C : Nat → Int} {L M : List Smp} {d : Int} (h : Lz g n to C (inPQ L) n 0) (hp : L.Perm (M ++ [((x : Int), d)])) (hx : C x < 0) (hmin : ∀ p ∈ L, d ≤ p.2) :
    0 ≤ d ∧ x < n ∧ Lz g n to (fun i => if i = x then d else C i) (inPQ M) x 0 :=
  h.settle hx (hp.mem_iff.2 (List.mem_append_right _ (List.mem_singleton.2 rfl))) (fun i c hm => hmin _ hm) (fun i c hm => hp.mem_iff.2 (List.mem_append_left _ hm)) (fun i c hm => by
    rcases List.mem_append.1 (hp.mem_iff.1 hm) with h1 | h1
    · exact .inl h1
    · rw [List.mem_singleton, Prod.mk.injEq] at h1
      exact .inr (by omega))
theorem push_offer {g : Nat → Nat → Int} {n to x m : Nat} {C : Nat → Int} {L M : List Smp} {c : Int} (h : Lz g n to C (inPQ L) x m) (hx : x < n) (hm : m < n) (hc : 0 ≤ C x) (hg : 0 < g m x) (e : c = g m x + C x) (hp : M.Perm (L ++ [((m : Int), c)])) : Lz g n to C (inPQ M) x (m + 1) := by
  subst e
  refine h.offer hx hm hc (fun i c hq => hp.mem_iff.2 (List.mem_append_left _ hq)) (fun i c hq => ?_) (fun _ => hp.mem_iff.2 (List.mem_append_right _ (List.mem_singleton.2 rfl)))
  rcases List.mem_append.1 (hp.mem_iff.1 hq) with h1 | h1
  · exact .inl h1
  · rw [List.mem_singleton, Prod.mk.injEq] at h1
    exact .inr ⟨hg, by omega, h1.2⟩
theorem natQ_perm {L M : List Smp} {y : Smp} (h : natQ L) (hp : L.Perm (M ++ [y])) : natQ M ∧ ∃ i : Nat, y.1 = (i : Int) :=
  ⟨fun p hm => h p (hp.mem_iff.2 (List.mem_append_left _ hm)), h y (hp.mem_iff.2 (List.mem_append_right _ (List.mem_singleton.2 rfl)))⟩
theorem natQ_push {L M : List Smp} {m : Nat} {c : Int} (h : natQ L) (hp : M.Perm (L ++ [((m : Int), c)])) : natQ M := fun p hm => by
  rcases List.mem_append.1 (hp.mem_iff.1 hm) with h1 | h1
  · exact h p h1
  · rw [List.mem_singleton] at h1
    subst h1
    exact ⟨m, rfl⟩
theorem pn_mem {L : List Smp} {i : Nat} (hi : i < L.length) : pn L i ∈ L := by rw [pn_get hi]; exact List.getElem_mem hi
theorem mem_pn {L : List Smp} {p : Smp} (h : p ∈ L) : ∃ i, i < L.length ∧ pn L i = p := by
  obtain ⟨i, hi, e⟩ := List.getElem_of_mem h
  exact ⟨i, hi, by rw [pn_get hi]; exact e⟩
theorem lz_new {g : Nat → Nat → Int} {n to : Nat} (hto : to < n) : Lz g n to (fun _ => -1) (inPQ [((to : Int), 0)]) n 0 :=
  (Lz.start hto).congr hto (fun _ _ => rfl) fun i c => by
    unfold inPQ
    rw [List.mem_singleton, Prod.mk.injEq]
    constructor
    · rintro ⟨h1, h2⟩; exact ⟨by omega, h2⟩
    · rintro ⟨rfl, rfl⟩; exact ⟨rfl, rfl⟩
set_option maxRecDepth 10000 in
theorem pv_new {W : World} {D v b n : Nat} {L : List Smp} (hd : D ≤ b ∧ D ≤ v ∧ b ≠ v ∧ L.length ≤ 1000) (hv : W.heap[v]? = some (.cells #[.slice (some ⟨b, 0, none⟩) n n] 84 (0, 0))) (hb : W.heap[b]? = some (.cells (smpCells L).toArray 82 (0, 0))) (hn : n = L.length) : PV W D v b n L := by
  subst hn
  have hs : (smpCells L).toArray.size = L.length * 2 := by simp [smpCells_length]
  refine ⟨hd, ⟨_, hv, rfl, fun i hi => ?_⟩, Nat.le_refl _, by unfold maxLen; omega, fun i => (smpCells L).toArray.getD i undef, ⟨_, hb, hs, fun i hi => by simp [show i < (smpCells L).length by rw [smpCells_length]; exact hi]⟩, fun i hi => ?_⟩
  · obtain rfl : i = 0 := by omega
    rfl
  · obtain ⟨k1, k2⟩ := smpCells_at L i hi
    have h1 : i * 2 < (smpCells L).length := by rw [smpCells_length]; omega
    have h2 : i * 2 + 1 < (smpCells L).length := by rw [smpCells_length]; omega
    simp only [List.getElem?_eq_getElem h1, List.getElem?_eq_getElem h2, Option.some.injEq] at k1 k2
    refine ⟨?_, ?_⟩
    · show _ = Value.int .i64 (sI L i)
      simpa [h1] using k1
    · show _ = Value.int .i64 (sQ L i)
      simpa [h2] using k2
set_option maxRecDepth 10000 in
set_option maxHeartbeats 8000000 in
theorem leastPaths_any (a : Option Addr) (c : Nat) (R : List (List Int)) (to : Nat) (w : World) (hr : RowsL w w.heap.size a R) (hok : TiOk R) (hto : to < R.length) :
    Calls Try.prog 49 #[.slice a R.length c, .int .i64 (to : Int)] w (ListPostC (lcL R to) w) := by
  have HR := Lib.hid hr
  have HOK := Lib.hid hok
  have hn10 := hok.1
  have hal := alloc_belowX w (.cells #[.int .i64 (-1)] 3)
  have HB0 := Lib.hid hal
  have HRep := Lib.hid (repeat_any w.heap.size R.length (w.alloc (.cells #[.int .i64 (-1)] 3)) (by simp) (by simp) hn10)
  have hta : ∀ (u : Value) (w : World), (Instr.typeAssert (.iface 82 u) 20 82 false).run Try.prog w = .ok u w := run_assertPt
  have HTO := Lib.hid hto
  obtain ⟨n, hn⟩ : ∃ n, n = R.length := ⟨_, rfl⟩
  rw [← hn] at HRep hn10 ⊢
  have HN := Lib.hid hn
  clear hr hok hal hto hn
  go_enter Try.func49, Try.ntmps49
  go_wp2_with (go_at_call 66; (with_reducible refine HRep.out.mono ?_); rintro e u1 ⟨rfl, rx1, b1⟩; have R1 := Lib.hid rx1; have B1 := Lib.hid (Below.next HB0.out (Nat.le_refl _) b1); clear rx1 b1)
  have e0 : (w.alloc (.cells #[.int .i64 (-1)] 3)).heap.size = w.heap.size + 1 := by simp
  rw [e0] at R1
  obtain ⟨s0, hs0⟩ : ∃ s0, s0 = w.heap.size + 1 := ⟨_, rfl⟩
  rw [← hs0] at R1 ⊢
  obtain ⟨D, hD⟩ : ∃ D, D = u1.heap.size := ⟨_, rfl⟩
  have hsD : s0 < D := by rw [hD]; exact R1.out.lt
  have hws : w.heap.size < s0 := by omega
  have HB1 := Lib.hid (alloc_belowX u1 (.cells #[.int .i64 (to : Int), .int .i64 0] 82))
  have HB2 := Lib.hid (alloc_belowX (u1.alloc (.cells #[.int .i64 (to : Int), .int .i64 0] 82)) (.cells #[.slice (some ⟨D, 0, none⟩) 1 1] 84))
  have HQ0 : Hid (PV ((u1.alloc (.cells #[.int .i64 (to : Int), .int .i64 0] 82)).alloc (.cells #[.slice (some ⟨D, 0, none⟩) 1 1] 84)) D (D + 1) D 1 [((to : Int), 0)]) := by
    refine pv_new ⟨Nat.le_refl _, by omega, by omega, by simp⟩ ?_ ?_ rfl
    · have h1 := heap_alloc_last (u1.alloc (.cells #[.int .i64 (to : Int), .int .i64 0] 82)) (.cells #[.slice (some ⟨D, 0, none⟩) 1 1] 84)
      have h2 : (u1.alloc (.cells #[.int .i64 (to : Int), .int .i64 0] 82)).heap.size = D + 1 := by rw [hD]; simp
      rw [h2] at h1
      exact h1
    · rw [hD, Below.heap_alloc _ _ _ (by simp)]
      exact heap_alloc_last _ _
  rw [← hD]
  have HR1 := Lib.hid ((R1.out.next HB1.out).next HB2.out)
  have HBW := Lib.hid (Below.next (Below.next B1.out (Nat.le_refl _) HB1.out) (Nat.le_refl _) HB2.out)
  rw [ccL_new] at HR1
  have HSD := Lib.hid hsD
  have HWS := Lib.hid hws
  clear HRep hs0 hD R1 B1 HB1 HB2 HB0 e0 hsD hws
  generalize (u1.alloc (.cells #[.int .i64 (to : Int), .int .i64 0] 82)).alloc (.cells #[.slice (some ⟨D, 0, none⟩) 1 1] 84) = U0 at *
  obtain ⟨v, hv⟩ : ∃ v, v = D + 1 := ⟨_, rfl⟩
  rw [← hv] at HQ0 ⊢
  clear hv
  obtain ⟨g, hg⟩ : ∃ g, g = tg R := ⟨_, rfl⟩
  have HG : Hid (∀ i j, i < n → j < n → g i j ≤ 100) := fun i j hi hj => by rw [HN.out] at hi hj; rw [hg]; exact (tiOk_in HOK.out hi hj).2
  have HFIN : Hid (∀ C : Nat → Int, IsD g n to C → ccL C n = lcL R to) := fun C h => by rw [hg, HN.out] at h; rw [HN.out]; exact lcL_of h
  have hto : to < n := by rw [HN.out]; exact HTO.out
  have HTO2 := Lib.hid hto
  have HLZ0 := Lib.hid (lz_new (g := g) hto)
  have HROW : Hid (∀ (W : World) m, m < n → RowsL W w.heap.size a R → ∃ (b off : Nat) (ad : Option Addr) (cp : Nat), a = some (⟨b, off, none⟩ : Addr) ∧ W.cell? ⟨b, off + m, none⟩ = some (.slice ad n cp) ∧ Ints .i64 W w.heap.size ad (rwI R m) ∧ ∀ x, x < n → el (rwI R m) x = g m x ∧ x < (rwI R m).length) := fun W m hm h => by
    have hm' : m < R.length := by rw [← HN.out]; exact hm
    obtain ⟨b, off, ad, cp, e, h1, _, _, h4⟩ := h.at_ hm'
    have hl := tiOk_row HOK.out hm'
    rw [hl, ← HN.out] at h1
    exact ⟨b, off, ad, cp, e, h1, h4, fun x hx => ⟨by rw [hg]; rfl, by rw [hl, ← HN.out]; exact hx⟩⟩
  clear hto hg
  go_loopw [7] (fun _ wr => ∃ (C : Nat → Int) (L : List Smp) (b cap : Nat), RowX wr s0 (ccL C n) ∧ PV wr D v b cap L ∧ Hq L L.length ∧ Lz g n to C (inPQ L) n 0 ∧ natQ L ∧ unN C n * (n + 1) + L.length ≤ n * (n + 1) + 1 ∧ Below w.heap.size w wr) (fun _ wr => rtMeas s0 v n wr)
  case atStart =>
    refine ⟨fun _ => -1, [((to : Int), 0)], D, 1, HR1.out, HQ0.out, fun c h1 h2 => absurd h2 (by simp; omega), HLZ0.out, fun p hp => ?_, ?_, HBW.out⟩
    · rw [List.mem_singleton] at hp; subst hp; exact ⟨to, rfl⟩
    · have h1 := Nat.mul_le_mul_right (n + 1) (unN_le (fun _ => (-1 : Int)) n)
      simp only [List.length_singleton]; omega
  case round =>
    obtain ⟨C, L, b, cap, hr, hq, hh, hz, hnq, hm, hbl⟩ := hrel
    have HRX := Lib.hid hr
    have HQ := Lib.hid hq
    have HH := Lib.hid hh
    have HZ := Lib.hid hz
    have HNQ := Lib.hid hnq
    have HM := Lib.hid hm
    have HBL := Lib.hid hbl
    have HME := Lib.hid (rtMeas_is hr hq)
    clear hr hq hh hz hnq hm hbl HR1 HQ0 HLZ0 HBW
    have hcv := HQ.out.cell
    by_cases h0 : L.length = 0
    · rw [h0] at hcv
      have HE := Lib.hid (HFIN.out C (HZ.out.is fun i c hm => by
        obtain rfl := List.eq_nil_of_length_eq_zero h0
        exact absurd hm (List.not_mem_nil)))
      go_wp2
      go_ret
      rw [← HE.out]
      exact rowX_post HRX.out (by rw [ccL_len]; unfold maxLen; omega) (Nat.le_of_lt HWS.out) HBL.out (ccL_len _ _).symm
    · obtain ⟨k, hk⟩ : ∃ k, L.length = k + 1 := ⟨L.length - 1, by omega⟩
      rw [hk] at hcv
      have HP := Lib.hid (pop_anyP wr D v b cap k L HQ.out HH.out hk)
      obtain ⟨x, hx⟩ := HNQ.out (pn L 0) (pn_mem (by omega))
      obtain ⟨d, hd⟩ : ∃ d, d = (pn L 0).2 := ⟨_, rfl⟩
      have hp0 : pn L 0 = ((x : Int), d) := Prod.ext hx hd.symm
      have HMIN := Lib.hid (fun (p : Smp) (hp : p ∈ L) => show d ≤ p.2 by
        obtain ⟨i, hi, e⟩ := mem_pn hp
        rw [hd, ← e]
        exact hq_least HH.out i hi)
      have hk1 : (0 : Int) < ((k + 1 : Nat) : Int) := by omega
      have HK := Lib.hid hk
      unfold PopPostP at HP
      rw [hp0] at HP
      unfold ptV at HP
      have HDs := Lib.hid (show D ≤ wr.heap.size by have h1 := HQ.out.1; have h2 := HQ.out.2.2.lt; omega)
      have hxn : x < n := (HZ.out.waits x d (show ((x : Int), d) ∈ L by rw [← hp0]; exact pn_mem (by omega))).1
      have HXN := Lib.hid hxn
      have hxI : (x : Int) < (n : Int) := by omega
      obtain ⟨cx, hcx⟩ : ∃ cx, cx = C x := ⟨_, rfl⟩
      have HCX := Lib.hid hcx
      have HR1 := Lib.hid (fun (W : World) (h : KeptQ b v wr W) => show RowX (W.alloc (.cells #[.int .i64 (x : Int), .int .i64 d] 82)) s0 (ccL C n) from (HRX.out.keepQ h (by have h1 := HQ.out.1; have h2 := HSD.out; omega) (by have h1 := HQ.out.1; have h2 := HSD.out; omega)).next (alloc_belowX _ _))
      have HC1 := Lib.hid (fun (W : World) (h : RowX W s0 (ccL C n)) => show W.cell? ⟨s0, x, none⟩ = some (.int .i64 cx) by rw [h.cell (by rw [ccL_len]; exact HXN.out), ccL_el HXN.out, HCX.out])
      clear hx hd hp0 h0 hk hxn hcx
      by_cases hc : cx = -1
      · have hcb : (cx != -1) = false := by simp [hc]
        have HC0 := Lib.hid (show C x < 0 by have := HCX.out; omega)
        have HF1 := Lib.hid (fun (W : World) (h : RowX W s0 (ccL C n)) => show W.frozen? ⟨s0, x, none⟩ = false from h.frozen x)
        subst hc
        go_wp2_with (go_at_call 67; ((with_reducible refine HP.out.mono ?_); rintro e w1 ⟨rfl, M, q1, h1, p1, l1, k1⟩; have Q1 := Lib.hid q1; have H1 := Lib.hid h1; have P1 := Lib.hid p1; have L1 := Lib.hid l1; have K1 := Lib.hid k1; have R1 := Lib.hid (HR1.out _ k1); have hcC := HC1.out _ R1.out; have hfC := HF1.out _ R1.out; clear q1 h1 p1 l1 k1))
        have hb := alloc_belowX w1 (.cells #[.int .i64 (x : Int), .int .i64 d] 82)
        have HBX := Lib.hid (ptBox_new w1 (x : Int) d 82)
        have HB2 := Lib.hid (Below.next (HBL.out.trans ((K1.out.below HQ.out.1.1 HQ.out.1.2.1 HDs.out).mono (by have h1 := HSD.out; have h2 := HWS.out; omega))) (Nat.le_refl _) hb)
        have Q2 := Lib.hid (Q1.out.next hb)
        have HPD := Lib.hid (show D ≤ w1.heap.size from Nat.le_trans HDs.out K1.out.size)
        have HPB := Lib.hid (show b < w1.heap.size from Q1.out.2.2.lt)
        have HPV := Lib.hid (show v < w1.heap.size from Q1.out.2.1.lt)
        generalize w1.alloc (.cells #[.int .i64 (x : Int), .int .i64 d] 82) = w2 at *
        generalize w1.heap.size = p at *
        obtain ⟨hd0, _, hz0⟩ := pop_settle HZ.out P1.out HC0.out HMIN.out
        have HUN := Lib.hid (unN_set (C := C) hd0 HC0.out HXN.out)
        have HC'x : Hid ((fun i => if i = x then d else C i) x = d) := by show (if x = x then d else C x) = d; rw [if_pos rfl]
        have R3 := Lib.hid (R1.out.set (k := x) (by rw [ccL_len]; exact HXN.out) d)
        rw [ccL_set d HXN.out] at R3
        obtain ⟨C', hC'⟩ : ∃ C' : Nat → Int, C' = fun i => if i = x then d else C i := ⟨_, rfl⟩
        rw [← hC'] at hz0 HUN HC'x R3
        have HZ0 := Lib.hid hz0
        have Q3 := Lib.hid (Q2.out.set_out HSD.out x (.int .i64 d))
        have B3 := Lib.hid (HB2.out.setCell (p := ⟨s0, x, none⟩) (Nat.le_of_lt HWS.out) (.int .i64 d))
        have X3 : Hid (PtBox (w2.setCell ⟨s0, x, none⟩ (.int .i64 d)) p (x : Int) d) := HBX.out.keep (by simp) (Below.heap_setCell w2 ⟨s0, x, none⟩ _ _ (by show p ≠ s0; have h1 := HPD.out; have h2 := HSD.out; omega))
        have HN1 := Lib.hid (natQ_perm HNQ.out P1.out).1
        have HD0 := Lib.hid hd0
        clear hz0 hC' hb hcC hfC hcb HP HCX HR1 HC1 HF1 HBX HB2 Q2 R1 Q1 hd0 HDs
        generalize w2.setCell ⟨s0, x, none⟩ (.int .i64 d) = w3 at *
        go_loopw [38] (fun i wq => ∃ (m : Nat) (M' : List Smp) (b' cap' : Nat), m ≤ n ∧ i = .int .i64 (m : Int) ∧ PV wq D v b' cap' M' ∧ Hq M' M'.length ∧ (b' ≠ p) ∧ RowX wq s0 (ccL C' n) ∧ PtBox wq p (x : Int) d ∧ Lz g n to C' (inPQ M') x m ∧ natQ M' ∧ M'.length ≤ k + m ∧ Below w.heap.size w wq) (fun i _ => n - (intOf i).toNat)
        case atStart => exact ⟨0, M, b, cap, Nat.zero_le _, rfl, Q3.out, H1.out, by have := HPB.out; omega, R3.out, X3.out, HZ0.out, HN1.out, by have := L1.out; omega, B3.out⟩
        case round =>
          obtain ⟨m, M', b', cap', hm, rfl, hq, hh, hbp, hr, hx, hz, hnq, hl, hbl⟩ := hrel
          have Q4 := Lib.hid hq
          have H4 := Lib.hid hh
          have BP := Lib.hid hbp
          have R4 := Lib.hid hr
          have X4 := Lib.hid hx
          have Z4 := Lib.hid hz
          have N4 := Lib.hid hnq
          have L4 := Lib.hid hl
          have B4 := Lib.hid hbl
          clear hq hh hbp hr hx hz hnq hl hbl Q3 R3 X3 HZ0 HN1 B3 H1
          by_cases hlt : m < n
          · obtain ⟨b9, off, ad, cp, rfl, hrow, hin, hel⟩ := HROW.out wr m hlt (HR.out.below (B4.out))
            obtain ⟨hel1, hel2⟩ := hel x HXN.out
            obtain ⟨b8, off8, rfl, hb8, hc8⟩ := hin.at_ hel2
            rw [hel1] at hc8
            have hX0 := X4.out.2.1
            have hX1 := X4.out.2.2
            have hltI : (m : Int) < (n : Int) := by omega
            have hG1 := HG.out m x hlt HXN.out
            obtain ⟨gm, hgm⟩ : ∃ gm, gm = g m x := ⟨_, rfl⟩
            have HGM := Lib.hid hgm
            have HCp := Lib.hid (show 0 ≤ C' x by rw [HC'x.out]; exact HD0.out)
            rw [← hgm] at hc8 hG1
            have HLT := Lib.hid hlt
            clear hin hel hel1 hel2 hb8 hgm
            by_cases hpos : 0 < gm
            · have hd1 : d ≤ n * 100 := by have h1 := Z4.out.bound HG.out (by omega) HXN.out HCp.out; rw [HC'x.out] at h1; exact h1
              have hd0 := HD0.out
              have r1 := wrapW (n := gm + d) (by omega)
              have r1' := wrapW' (n := gm + d) (by omega)
              have HL4 := Lib.hid (show M'.length < 1000 by
                have h1 := HM.out
                have h2 := HK.out
                have h3 := L4.out
                have h4 : n * (n + 1) ≤ 10 * 11 := Nat.mul_le_mul hn10 (by omega)
                omega)
              have HPU := Lib.hid (push_anyP wr D v b' cap' M' ((m : Int), gm + d) Q4.out H4.out HL4.out)
              unfold ptV at HPU
              have HPO := Lib.hid hpos
              clear hd1 hd0 hG1 hlt
              go_wp2_with (go_at_call 68; ((with_reducible refine HPU.out.mono ?_); rintro e w5 ⟨rfl, b5, cap5, M5, q5, h5, p5, k5, bb5⟩; have Q5 := Lib.hid q5; have H5 := Lib.hid h5; have P5 := Lib.hid p5; have K5 := Lib.hid k5; have BB5 := Lib.hid bb5; clear q5 h5 p5 k5 bb5))
              go_roundw
              case rel =>
                have hdb := Q4.out.1
                have hsd := HSD.out
                have hpd := HPD.out
                have hpv := HPV.out
                have hDw : D ≤ wr.heap.size := by have := Q4.out.2.2.lt; omega
                refine ⟨m + 1, M5, b5, cap5, by omega, by go_num, Q5.out, H5.out, ?_, R4.out.keepQ K5.out (by omega) (by omega), X4.out.keep K5.out.size (K5.out.block p X4.out.1 (Ne.symm BP.out) (by omega)), ?_, natQ_push N4.out P5.out, ?_, B4.out.trans ((K5.out.below hdb.1 hdb.2.1 hDw).mono (by have := HWS.out; omega))⟩
                · have h1 := BB5.out; have h2 := BP.out; have h3 := X4.out.1; omega
                · exact push_offer Z4.out HXN.out HLT.out HCp.out (by rw [← HGM.out]; exact HPO.out) (by rw [HC'x.out, ← HGM.out]) P5.out
                · have h1 := P5.out.length_eq
                  rw [List.length_append, List.length_singleton] at h1
                  have h2 := L4.out
                  omega
              case measure => have := HLT.out; simp [intOf]; omega
            · have HPO := Lib.hid hpos
              clear hG1 hlt
              go_wp2
              go_roundw
              case rel =>
                refine ⟨m + 1, M', b', cap', by have := HLT.out; omega, by go_num, Q4.out, H4.out, BP.out, R4.out, X4.out, ?_, N4.out, by have := L4.out; omega, B4.out⟩
                exact Z4.out.offer HXN.out HLT.out HCp.out (fun _ _ h => h) (fun _ _ h => .inl h) (fun h => absurd (by rw [HGM.out]; exact h) HPO.out)
              case measure => have := HLT.out; simp [intOf]; omega
          · obtain rfl : n = m := by omega
            go_wp2
            go_roundw
            case rel =>
              refine ⟨C', M', b', cap', R4.out, Q4.out, H4.out, Z4.out.done, N4.out, ?_, B4.out⟩
              have h1 := HM.out
              have h2 := HK.out
              have h3 := L4.out
              have h4 := HUN.out
              have h5 : unN C n * (n + 1) = unN C' n * (n + 1) + (n + 1) := by rw [← h4, Nat.succ_mul]
              omega
            case measure =>
              rw [HME.out, rtMeas_is R4.out Q4.out]
              have h2 := HK.out
              have h3 := L4.out
              have h4 := HUN.out
              have h5 : unN C n * (n + 1) = unN C' n * (n + 1) + (n + 1) := by rw [← h4, Nat.succ_mul]
              omega
      · have hcb : (cx != -1) = true := by simp [hc]
        have HC0 := Lib.hid (show 0 ≤ C x by
          rcases Int.lt_or_le (C x) 0 with h | h
          · exact absurd (HCX.out.trans (HZ.out.none_ x HXN.out h)) hc
          · exact h)
        clear hc
        go_wp2_with (go_at_call 67; ((with_reducible refine HP.out.mono ?_); rintro e w1 ⟨rfl, M, q1, h1, p1, l1, k1⟩; have Q1 := Lib.hid q1; have H1 := Lib.hid h1; have P1 := Lib.hid p1; have L1 := Lib.hid l1; have K1 := Lib.hid k1; have R1 := Lib.hid (HR1.out _ k1); have hcC := HC1.out _ R1.out; clear q1 h1 p1 l1 k1))
        go_roundw
        case rel =>
          have hb := alloc_belowX w1 (.cells #[.int .i64 (x : Int), .int .i64 d] 82)
          refine ⟨C, M, b, cap, R1.out, Q1.out.next hb, H1.out, pop_skip HZ.out P1.out HC0.out, (natQ_perm HNQ.out P1.out).1, by have h1 := HM.out; have h2 := HK.out; have h3 := L1.out; omega, ?_⟩
          exact Below.next (HBL.out.trans ((K1.out.below HQ.out.1.1 HQ.out.1.2.1 HDs.out).mono (by have h1 := HSD.out; have h2 := HWS.out; omega))) (Nat.le_refl _) hb
        case measure =>
          have hb := alloc_belowX w1 (.cells #[.int .i64 (x : Int), .int .i64 d] 82)
          rw [HME.out, rtMeas_is R1.out (Q1.out.next hb), HK.out, L1.out]
          omega

/-- A station's number, -1 for none. -/
def nxV (o : Option Nat) : Int := match o with | some j => j | none => -1
/-- Costs as they are in use: -1, or not too large. -/
def DcOk (n : Nat) (D : Nat → Int) : Prop := ∀ j, j < n → (D j < 0 → D j = -1) ∧ D j ≤ 1000
theorem lcL_ok {R : List (List Int)} {to : Nat} (h : TiOk R) : DcOk R.length (el (lcL R to)) := fun j hj => by
  have hd := lcL_is R to
  refine ⟨hd.none_ j hj, ?_⟩
  by_cases h0 : 0 ≤ el (lcL R to) j
  · obtain ⟨k, hk⟩ := hd.way j hj h0
    obtain ⟨r, d, hr, hw, hde⟩ := few_links hj hk
    have h1 := (hd.least j hj r d hw).2
    have h2 := hw.most (M := 100) (fun a b ha hb => (tiOk_in h ha hb).2) hj
    have := h.1
    omega
  · omega
set_option maxRecDepth 10000 in
set_option maxHeartbeats 2000000 in
theorem nextOf_any (a b : Option Addr) (c c' B B' : Nat) (R : List (List Int)) (xs : List Int) (i : Nat) (w : World) (hr : RowsL w B a R) (hx : Ints .i64 w B' b xs) (hok : TiOk R) (hl : xs.length = R.length) (hi : i < R.length) (hd : DcOk R.length (el xs)) :
    Calls Try.prog 53 #[.slice a R.length c, .slice b xs.length c', .int .i64 (i : Int)] w fun e w' => e = .returned (.int .i64 (nxV (nxS (tg R) (el xs) i R.length))) ∧ ∃ k, w' = w.drewN k := by
  obtain ⟨b1, off1, ad, cp, rfl, hrow, _, _, hin⟩ := hr.at_ hi
  obtain ⟨b2, off2, rfl, hb2, hc2⟩ := hx (by intro e; subst e; simp at hl; omega)
  have hn10 := hok.1
  have HL := Lib.hid hl
  have hll := tiOk_row hok hi
  obtain ⟨n, hn⟩ : ∃ n, n = R.length := ⟨_, rfl⟩
  rw [hll, ← hn] at hrow
  rw [← hn] at hl hll hi hd hn10
  have HI := Lib.hid (fun j (hj : j < n) => show ∃ b3 off3, ad = some ⟨b3, off3, none⟩ ∧ w.cell? ⟨b3, off3 + j, none⟩ = some (.int .i64 (tg R i j)) from by
    obtain ⟨b3, off3, e, _, h⟩ := hin.at_ (i := j) (by rw [hll]; exact hj)
    exact ⟨b3, off3, e, h⟩)
  have HC := Lib.hid (fun j (hj : j < n) => hc2 j (by rw [hl]; exact hj))
  have HG := Lib.hid (fun j (hj : j < n) => tiOk_in hok (i := i) (j := j) (by rw [← hn]; exact hi) (by rw [← hn]; exact hj))
  have HD := Lib.hid hd
  have hiI : (i : Int) < (n : Int) := by omega
  have hci := hc2 i (by rw [hl]; exact hi)
  rw [hl, ← hn]
  have HII := Lib.hid hi
  clear hr hx hok hc2 hin hb2 hll hn hl HL hd hi
  go_enter Try.func53, Try.ntmps53
  go_wp2
  go_loopw [14] (fun x wr => ∃ j q : Nat, j ≤ n ∧ x = .int .i64 (j : Int) ∧ wr = w.drewN q ∧ ∀ k, k < j → ¬ Hit (tg R) (el xs) i k) (fun x _ => n - (intOf x).toNat)
  case atStart => exact ⟨0, 0, Nat.zero_le _, rfl, rfl, fun k hk => absurd hk (by omega)⟩
  case round =>
    obtain ⟨j, q, hj, rfl, rfl, hno⟩ := hrel
    have HNO := Lib.hid hno
    clear hno
    by_cases hlt : j < n
    · obtain ⟨b3, off3, rfl, hcj⟩ := HI.out j hlt
      have hdj := HC.out j hlt
      have hgj := HG.out j hlt
      have hD := HD.out j hlt
      have hltI : (j : Int) < (n : Int) := by omega
      have HLT := Lib.hid hlt
      obtain ⟨G, hG⟩ : ∃ G, G = tg R i j := ⟨_, rfl⟩
      obtain ⟨Dj, hDj⟩ : ∃ Dj, Dj = el xs j := ⟨_, rfl⟩
      obtain ⟨Di, hDi⟩ : ∃ Di, Di = el xs i := ⟨_, rfl⟩
      have HH : Hid (Hit (tg R) (el xs) i j ↔ (0 < G ∧ 0 ≤ Dj ∧ G + Dj = Di)) := by
        show _ ↔ _
        rw [hG, hDj, hDi]; exact Iff.rfl
      rw [← hG] at hcj hgj
      rw [← hDj] at hdj hD
      rw [← hDi] at hci
      clear hG hDj hDi hlt
      by_cases h1 : 0 < G
      · by_cases h2 : Dj = -1
        · have HN : Hid (∀ k, k < j + 1 → ¬ Hit (tg R) (el xs) i k) := fun k hk hh => by
            rcases Nat.lt_succ_iff_lt_or_eq.1 hk with h3 | rfl
            · exact HNO.out k h3 hh
            · have := (HH.out.1 hh).2.1; omega
          subst h2
          have h1d : (decide (0 < G)) = true := decide_eq_true h1
          have h2d : ((-1 : Int) != -1) = false := by decide
          clear hD hgj
          go_wp2
          go_quiet (fail)
          go_wp2
          go_roundw
          case rel => exact ⟨j + 1, _, by have := HLT.out; omega, by go_num, rfl, HN.out⟩
          case measure => have := HLT.out; simp [intOf]; omega
        · have h2d : (Dj != -1) = true := by simp [h2]
          have r1 := wrapW (n := G + Dj) (by have := hD.2; have h3 := hD.1; omega)
          have r1' := wrapW' (n := G + Dj) (by have := hD.2; have h3 := hD.1; omega)
          have h1d : (decide (0 < G)) = true := decide_eq_true h1
          by_cases h3 : G + Dj = Di
          · have h3d : (G + Dj == Di) = true := by simp [h3]
            have HE : Hid (nxS (tg R) (el xs) i n = some j) := nxS_at HLT.out (HH.out.2 ⟨h1, by have := hD.1; omega, h3⟩) HNO.out
            clear hD hgj h3 h2
            go_wp2
            go_quiet (fail)
            go_wp2
            go_ret
            rw [HE.out]
            exact ⟨rfl, _, by rw [World.drewN_drewN]⟩
          · have h3d : (G + Dj == Di) = false := by simp [h3]
            have HN : Hid (∀ k, k < j + 1 → ¬ Hit (tg R) (el xs) i k) := fun k hk hh => by
              rcases Nat.lt_succ_iff_lt_or_eq.1 hk with h4 | rfl
              · exact HNO.out k h4 hh
              · exact h3 (HH.out.1 hh).2.2
            clear hD hgj h3 h2
            go_wp2
            go_quiet (fail)
            go_wp2
            go_roundw
            case rel => exact ⟨j + 1, _, by have := HLT.out; omega, by go_num, rfl, HN.out⟩
            case measure => have := HLT.out; simp [intOf]; omega
      · have HN : Hid (∀ k, k < j + 1 → ¬ Hit (tg R) (el xs) i k) := fun k hk hh => by
          rcases Nat.lt_succ_iff_lt_or_eq.1 hk with h4 | rfl
          · exact HNO.out k h4 hh
          · exact h1 (HH.out.1 hh).1
        have h1d : (decide (0 < G)) = false := decide_eq_false h1
        clear hD hgj
        go_wp2
        go_quiet (fail)
        go_wp2
        go_roundw
        case rel => exact ⟨j + 1, _, by have := HLT.out; omega, by go_num, rfl, HN.out⟩
        case measure => have := HLT.out; simp [intOf]; omega
    · obtain rfl : n = j := by omega
      go_wp2
      go_ret
      rw [nxS_no HNO.out]
      exact ⟨rfl, _, rfl⟩

/-- What LeastCosts answers. -/
def LsOk (R : List (List Int)) (t : Int) : Prop := TiOk R ∧ StOk R.length t
instance (R : List (List Int)) (t : Int) : Decidable (LsOk R t) := inferInstanceAs (Decidable (_ ∧ _))
def lsOr (R : List (List Int)) (t : Int) : List Int := if LsOk R t then lcL R t.toNat else []
theorem lsOr_yes {R : List (List Int)} {to : Nat} (h : TiOk R) (hto : to < R.length) : lsOr R (to : Int) = lcL R to := by
  have h1 : LsOk R (to : Int) := ⟨h, by unfold StOk; omega⟩
  unfold lsOr
  rw [if_pos h1]
  rfl
theorem lsOr_no {R : List (List Int)} {t : Int} (h : ¬ LsOk R t) : lsOr R t = [] := by unfold lsOr; rw [if_neg h]
theorem lsOk_cases {R : List (List Int)} {t : Int} (h : LsOk R t) : ∃ to : Nat, t = to ∧ to < R.length ∧ TiOk R := by
  obtain ⟨k, e, hk⟩ := stOk_nat h.2
  exact ⟨k, e, hk, h.1⟩
theorem endsOk_cases {R : List (List Int)} {f t : Int} (h : EndsOk R f t) : ∃ i to : Nat, f = i ∧ t = to ∧ i < R.length ∧ to < R.length ∧ TiOk R := by
  obtain ⟨i, e, hi⟩ := stOk_nat h.2.1
  obtain ⟨k, e', hk⟩ := stOk_nat h.2.2
  exact ⟨i, k, e, e', hi, hk, h.1⟩
theorem endsOk_of {R : List (List Int)} {i to : Nat} (h : TiOk R) (hi : i < R.length) (hto : to < R.length) : EndsOk R (i : Int) (to : Int) := ⟨h, by unfold StOk; omega, by unfold StOk; omega⟩
set_option maxRecDepth 10000 in
set_option maxHeartbeats 1000000 in
theorem leastCosts_any (a : Option Addr) (c : Nat) (R : List (List Int)) (t : Int) (w : World) (hr : RowsL w w.heap.size a R) :
    Calls Try.prog 20 #[.slice a R.length c, .int .i64 t] w (ListPostC (lsOr R t) w) := by
  by_cases h : LsOk R t
  · obtain ⟨to, rfl, hto, hok⟩ := lsOk_cases h
    rw [lsOr_yes hok hto]
    have H1 := Lib.hid (costsValid_is a c w.heap.size R true w hr (decide_eq_true hok))
    have H2 := Lib.hid (isStation_is a R.length c (to : Int) true w hok.1 (decide_eq_true h.2))
    have H3 := Lib.hid (leastPaths_any a c R to w hr hok hto)
    clear h hto hok hr
    go_enter Try.func20, Try.ntmps20
    go_wp2_with (first | (go_at_call 16; ((with_reducible refine H1.out.mono ?_); rintro e w1 ⟨rfl, rfl⟩)) | (go_at_call 48; ((with_reducible refine H2.out.mono ?_); rintro e w1 ⟨rfl, rfl⟩)) | (go_at_call 49; ((with_reducible refine H3.out.mono ?_); rintro e w1 ⟨g0, cg0, rfl, hl, o2, b2⟩; have HP := Lib.hid (And.intro hl (And.intro o2 b2)); clear hl o2 b2)))
    go_ret
    exact ⟨g0, cg0, rfl, HP.out⟩
  · rw [lsOr_no h]
    by_cases hok : TiOk R
    · have H1 := Lib.hid (costsValid_is a c w.heap.size R true w hr (decide_eq_true hok))
      have H2 := Lib.hid (isStation_is a R.length c t false w hok.1 (decide_eq_false fun h2 => h ⟨hok, h2⟩))
      clear h hok hr
      go_enter Try.func20, Try.ntmps20
      go_wp2_with (first | (go_at_call 16; ((with_reducible refine H1.out.mono ?_); rintro e w1 ⟨rfl, rfl⟩)) | (go_at_call 48; ((with_reducible refine H2.out.mono ?_); rintro e w1 ⟨rfl, rfl⟩)))
      go_ret
      exact listPostC_grow (Grow.nil _ _ _ _) (Below.refl _ _)
    · have H1 := Lib.hid (costsValid_is a c w.heap.size R false w hr (decide_eq_false hok))
      clear h hok hr
      go_enter Try.func20, Try.ntmps20
      go_wp2_with (go_at_call 16; ((with_reducible refine H1.out.mono ?_); rintro e w1 ⟨rfl, rfl⟩))
      go_ret
      exact listPostC_grow (Grow.nil _ _ _ _) (Below.refl _ _)
/-- What NextStation answers. -/
def nxI (R : List (List Int)) (i to : Nat) : Int := nxV (nxS (tg R) (el (lcL R to)) i R.length)
def nxOr (R : List (List Int)) (f t : Int) : Int := if EndsOk R f t then nxI R f.toNat t.toNat else -1
theorem nxOr_yes {R : List (List Int)} {i to : Nat} (h : TiOk R) (hi : i < R.length) (hto : to < R.length) : nxOr R (i : Int) (to : Int) = nxI R i to := by
  unfold nxOr
  rw [if_pos (endsOk_of h hi hto)]
  rfl
theorem nxOr_no {R : List (List Int)} {f t : Int} (h : ¬ EndsOk R f t) : nxOr R f t = -1 := by unfold nxOr; rw [if_neg h]
set_option maxRecDepth 10000 in
set_option maxHeartbeats 1000000 in
theorem nextStation_any (a : Option Addr) (c : Nat) (R : List (List Int)) (f t : Int) (w : World) (hr : RowsL w w.heap.size a R) :
    Calls Try.prog 24 #[.slice a R.length c, .int .i64 f, .int .i64 t] w fun e w' => e = .returned (.int .i64 (nxOr R f t)) ∧ Below w.heap.size w w' := by
  by_cases h : EndsOk R f t
  · obtain ⟨i, to, rfl, rfl, hi, hto, hok⟩ := endsOk_cases h
    rw [nxOr_yes hok hi hto]
    have H1 := Lib.hid (linkEnds_is a c w.heap.size R (i : Int) (to : Int) true w hr (decide_eq_true h))
    have H3 := Lib.hid (leastPaths_any a c R to w hr hok hto)
    have H4 := Lib.hid (fun (W : World) g0 cg0 (hx : Ints .i64 W W.heap.size g0 (lcL R to)) (hr : RowsL W W.heap.size a R) => nextOf_any a g0 c cg0 W.heap.size W.heap.size R (lcL R to) i W hr hx hok (lcL_len _ _) hi (lcL_ok hok))
    have HR := Lib.hid hr
    clear h hto hi hok hr
    go_enter Try.func24, Try.ntmps24
    go_wp2_with (first | (go_at_call 52; ((with_reducible refine H1.out.mono ?_); rintro e w1 ⟨rfl, rfl⟩)) | (go_at_call 49; ((with_reducible refine H3.out.mono ?_); rintro e w2 ⟨g0, cg0, rfl, hl, o2, b2⟩; have G2 := Lib.hid (own_of_list o2).ints; have R2 := Lib.hid (HR.out.next b2); have B2 := Lib.hid b2; clear hl o2 b2)) | (go_at_call 53; ((with_reducible refine (H4.out _ _ _ G2.out R2.out).mono ?_); rintro e w3 ⟨rfl, q3, rfl⟩)))
    go_ret
    exact ⟨rfl, below_drewN B2.out q3⟩
  · rw [nxOr_no h]
    have H1 := Lib.hid (linkEnds_is a c w.heap.size R f t false w hr (decide_eq_false h))
    clear h hr
    go_enter Try.func24, Try.ntmps24
    go_wp2_with (go_at_call 52; ((with_reducible refine H1.out.mono ?_); rintro e w1 ⟨rfl, rfl⟩))
    go_ret
    exact ⟨rfl, Below.refl _ _⟩
end Go.Proofs.Ytnmhiagnmfpipaa
