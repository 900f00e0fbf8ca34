/-
  The two tables of the stream code, as nested arrays: from a row's condition on its listed variables to what lies in them. Condition: the row lists them.
-/
import Derived.Test.YtnjjblcigcblhaaDoorStrMath
import Derived.Test.YtnjjblcigcblhaaDoorTabs
namespace Go.Proofs.YtnjjblcigcblhaaDoor
open Go.RowKit

/-- What the tables hold for the state s (the nearer bit is its higher digit) and the bit x. -/
def prN (s x j : Nat) : Nat := if j = 0 then op1 (s / 2) (s % 2) x else op2 (s % 2) x
def nxN (s x : Nat) : Nat := 2 * x + s / 2
def PairTab (w : World) : Prop := 0 < w.heap.size ∧ ∀ s x j, s < 4 → x < 2 → j < 2 → w.cell? ⟨0, s * 4 + x * 2 + j, none⟩ = some (.int .i64 (prN s x j : Int))
def NextTab (w : World) : Prop := 1 < w.heap.size ∧ ∀ s x, s < 4 → x < 2 → w.cell? ⟨1, s * 2 + x, none⟩ = some (.int .i64 (nxN s x : Int))
def StrTabs (w : World) : Prop := PairTab w ∧ NextTab w
theorem PairTab.next {w w' : World} (h : PairTab w) (hb : Below w.heap.size w w') : PairTab w' := ⟨Nat.lt_of_lt_of_le h.1 hb.size, fun s x j h1 h2 h3 => (hb.cell h.1).trans (h.2 s x j h1 h2 h3)⟩
theorem NextTab.next {w w' : World} (h : NextTab w) (hb : Below w.heap.size w w') : NextTab w' := ⟨Nat.lt_of_lt_of_le h.1 hb.size, fun s x h1 h2 => (hb.cell h.1).trans (h.2 s x h1 h2)⟩
theorem StrTabs.next {w w' : World} (h : StrTabs w) (hb : Below w.heap.size w w') : StrTabs w' := ⟨h.1.next hb, h.2.next hb⟩
theorem StrTabs.drewN {w : World} (h : StrTabs w) (n : Nat) : StrTabs (w.drewN n) := h
theorem prN_lt {s x j : Nat} (hs : s < 4) (hx : x < 2) : prN s x j < 2 := by
  unfold prN
  split
  · exact op1_lt (by omega) (by omega) hx
  · exact op2_lt (by omega) hx
theorem nxN_lt {s x : Nat} (hs : s < 4) (hx : x < 2) : nxN s x < 4 := by unfold nxN; omega

/-- An array that reads as a list of data: each of its parts reads as its datum. -/
theorem trod_arr {H : Type} {enc : TypeId × Value → H} {P : Program} {w : World} {base : Nat} {sp : Nat → Bool} {held : Bool} {fuel : Nat} {t e : TypeId} {n c : Nat} {cs : List Value} {ds : List (DataW H)} {p : List MemPlace}
    (ht : P.underlying t = some (.array n e)) (hce : P.cellsOf e = c) (hct : P.cellsOf t = n * c) (h : DataW.trod enc P w base sp held fuel t cs = some (.agg ds, p)) :
    ∃ fuel', ∀ i d, ds[i]? = some d → ∃ q, DataW.trod enc P w base sp held fuel' e ((cs.drop (i * c)).take c) = some (d, q) := by
  cases fuel with
  | zero => simp [DataW.trod] at h
  | succ fuel =>
    simp only [DataW.trod, ht, hce, hct] at h
    split at h
    · obtain ⟨xs, hm, hx⟩ := Option.map_eq_some_iff.1 h
      have hxs : xs.map (·.1) = ds := by
        have := congrArg Prod.fst hx
        simpa using this
      have hxl : xs.length = n := by simpa using Lib.mapM_length hm
      refine ⟨fuel, fun i d hd => ?_⟩
      have hin : i < n := by
        have h1 : i < ds.length := (List.getElem?_eq_some_iff.1 hd).1
        rw [← hxs] at h1
        simp at h1
        omega
      obtain ⟨b, hb, hf⟩ := Lib.mapM_at hm i i (by simp [hin])
      have : d = b.1 := by
        rw [← hxs] at hd
        simp [hb] at hd
        exact hd.symm
      exact ⟨b.2, by rw [this]; exact hf⟩
    · cases h
theorem part_at {cs l : List Value} {i c k : Nat} (h : (cs.drop i).take c = l) (hk : k < c) : cs[i + k]? = l[k]? := by
  rw [← h, List.getElem?_take, if_pos hk, List.getElem?_drop]

def rowD (a b : Int) : DataW Unit := Lib.tabData .i64 [a, b]
def pairD : DataW Unit := .agg [.agg [rowD 0 0, rowD 1 1], .agg [rowD 1 1, rowD 0 0], .agg [rowD 1 0, rowD 0 1], .agg [rowD 0 1, rowD 1 0]]
def nextD : DataW Unit := .agg [rowD 0 2, rowD 0 2, rowD 1 3, rowD 1 3]
theorem gPrs : Tryd.prog.globalNamed "loop.example/softwareradio/impl.streamPairs" = some 0 := by kernel_rfl
theorem tPrs : (Tryd.prog.globals[0]?).map (·.type) = some 45 := by kernel_rfl
theorem gNxt : Tryd.prog.globalNamed "loop.example/softwareradio/impl.streamNext" = some 1 := by kernel_rfl
theorem tNxt : (Tryd.prog.globals[1]?).map (·.type) = some 46 := by kernel_rfl
theorem row_cells {enc : TypeId × Value → Unit} {w : World} {base : Nat} {sp : Nat → Bool} {held : Bool} {fuel : Nat} {cs : List Value} {a b : Int} {p : List MemPlace}
    (h : DataW.trod enc Tryd.prog w base sp held fuel 43 cs = some (rowD a b, p)) : cs = [.int .i64 a, .int .i64 b] :=
  Lib.cells_of_tab Tryd.underlying43 Tryd.underlying3 (by kernel_rfl) (by kernel_rfl) h
theorem strTabs_of_laid {W : World} {rest : List (String × DataW Unit)} (h : laidMet Tryd.prog (("loop.example/softwareradio/impl.streamPairs", pairD) :: ("loop.example/softwareradio/impl.streamNext", nextD) :: rest) W) : StrTabs W := by
  obtain ⟨_, ⟨g1, t1, cs1, fuel1, p1, q1, hg1, ht1, hv1, hd1, ⟨g2, t2, cs2, fuel2, p2, q2, hg2, ht2, hv2, hd2, _, _⟩, _⟩, _⟩ := h
  obtain rfl := Option.some.inj (gPrs.symm.trans hg1)
  obtain rfl := Option.some.inj (tPrs.symm.trans ht1)
  obtain rfl := Option.some.inj (gNxt.symm.trans hg2)
  obtain rfl := Option.some.inj (tNxt.symm.trans ht2)
  have hp : ∀ s x j, s < 4 → x < 2 → j < 2 → W.cell? ⟨0, s * 4 + x * 2 + j, none⟩ = some (.int .i64 (prN s x j : Int)) := by
    obtain ⟨f1, k1⟩ := trod_arr (c := 4) Tryd.underlying45 (by kernel_rfl) (by kernel_rfl) hd1
    have row : ∀ s d0 d1 a b c d, [pairD].length = 1 → (match pairD with | .agg l => l[s]? | _ => none) = some (.agg [d0, d1]) → d0 = rowD a b → d1 = rowD c d →
        ∀ x j, x < 2 → j < 2 → cs1.toList[s * 4 + x * 2 + j]? = [Value.int .i64 a, .int .i64 b, .int .i64 c, .int .i64 d][x * 2 + j]? := by
      intro s d0 d1 a b c d _ h0 e0 e1 x j hx hj
      subst e0 e1
      obtain ⟨q, hq⟩ := k1 s _ h0
      obtain ⟨f2, k2⟩ := trod_arr (c := 2) Tryd.underlying44 (by kernel_rfl) (by kernel_rfl) hq
      obtain ⟨u0, hu0⟩ := k2 0 _ rfl
      obtain ⟨u1, hu1⟩ := k2 1 _ rfl
      have r0 := row_cells hu0
      have r1 := row_cells hu1
      have at_ : ∀ k, k < 4 → cs1.toList[s * 4 + k]? = ((cs1.toList.drop (s * 4)).take 4)[k]? := fun k hk => by rw [List.getElem?_take, if_pos hk, List.getElem?_drop]
      obtain rfl | rfl : x = 0 ∨ x = 1 := by omega
      · have := part_at r0 hj
        rw [Nat.add_assoc, at_ _ (by omega)]
        rw [show 0 * 2 + j = j by omega] at *
        rw [this]
        obtain rfl | rfl : j = 0 ∨ j = 1 := by omega
        · rfl
        · rfl
      · have := part_at r1 hj
        rw [Nat.add_assoc, at_ _ (by omega), this]
        obtain rfl | rfl : j = 0 ∨ j = 1 := by omega
        · rfl
        · rfl
    intro s x j hs hx hj
    rw [World.var?_cell gPrs hv1, ← Array.getElem?_toList]
    have : s = 0 ∨ s = 1 ∨ s = 2 ∨ s = 3 := by omega
    rcases this with rfl | rfl | rfl | rfl
    · rw [row 0 _ _ 0 0 1 1 rfl rfl rfl rfl x j hx hj]
      obtain rfl | rfl : x = 0 ∨ x = 1 := by omega
      all_goals
        obtain rfl | rfl : j = 0 ∨ j = 1 := by omega
        all_goals rfl
    · rw [row 1 _ _ 1 1 0 0 rfl rfl rfl rfl x j hx hj]
      obtain rfl | rfl : x = 0 ∨ x = 1 := by omega
      all_goals
        obtain rfl | rfl : j = 0 ∨ j = 1 := by omega
        all_goals rfl
    · rw [row 2 _ _ 1 0 0 1 rfl rfl rfl rfl x j hx hj]
      obtain rfl | rfl : x = 0 ∨ x = 1 := by omega
      all_goals
        obtain rfl | rfl : j = 0 ∨ j = 1 := by omega
        all_goals rfl
    · rw [row 3 _ _ 0 1 1 0 rfl rfl rfl rfl x j hx hj]
      obtain rfl | rfl : x = 0 ∨ x = 1 := by omega
      all_goals
        obtain rfl | rfl : j = 0 ∨ j = 1 := by omega
        all_goals rfl
  have hn : ∀ s x, s < 4 → x < 2 → W.cell? ⟨1, s * 2 + x, none⟩ = some (.int .i64 (nxN s x : Int)) := by
    obtain ⟨f1, k1⟩ := trod_arr (c := 2) Tryd.underlying46 (by kernel_rfl) (by kernel_rfl) hd2
    intro s x hs hx
    rw [World.var?_cell gNxt hv2, ← Array.getElem?_toList]
    have : s = 0 ∨ s = 1 ∨ s = 2 ∨ s = 3 := by omega
    rcases this with rfl | rfl | rfl | rfl
    · obtain ⟨u, hu⟩ := k1 0 _ rfl
      rw [part_at (row_cells hu) hx]
      obtain rfl | rfl : x = 0 ∨ x = 1 := by omega
      all_goals rfl
    · obtain ⟨u, hu⟩ := k1 1 _ rfl
      rw [part_at (row_cells hu) hx]
      obtain rfl | rfl : x = 0 ∨ x = 1 := by omega
      all_goals rfl
    · obtain ⟨u, hu⟩ := k1 2 _ rfl
      rw [part_at (row_cells hu) hx]
      obtain rfl | rfl : x = 0 ∨ x = 1 := by omega
      all_goals rfl
    · obtain ⟨u, hu⟩ := k1 3 _ rfl
      rw [part_at (row_cells hu) hx]
      obtain rfl | rfl : x = 0 ∨ x = 1 := by omega
      all_goals rfl
  exact ⟨⟨lt_of_cell (by simpa using hp 0 0 0 (by omega) (by omega) (by omega)), hp⟩, lt_of_cell (by simpa using hn 0 0 (by omega) (by omega)), hn⟩
end Go.Proofs.YtnjjblcigcblhaaDoor
