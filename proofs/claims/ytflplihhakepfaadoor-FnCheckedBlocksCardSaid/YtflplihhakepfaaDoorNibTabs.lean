/-
  From a row's condition on its listed variables to what the walks ask: the two tables lie in their variables. Condition: the row lists them.
-/
import Derived.Test.YtflplihhakepfaaDoorNib2
import Derived.OpenVars
namespace Go.Proofs.YtflplihhakepfaaDoor
open Go.RowKit

theorem trodVars_length {H : Type} {enc : TypeId × Value → H} {P : Program} {W : World} {sp : Nat → Bool} : ∀ {ns : List String} {gs : List (DataW H)} {ps : List MemPlace}, DataW.TrodVars enc P W sp ns gs ps → gs.length = ns.length
  | [], [], _, _ => rfl
  | [], _ :: _, _, h => h.elim
  | _ :: _, [], _, h => h.elim
  | _ :: _, _ :: _, _, h => by
    obtain ⟨_, _, _, _, _, _, _, _, _, _, hs, _⟩ := h
    simp [trodVars_length hs]
theorem trodVars_two {H : Type} {enc : TypeId × Value → H} {P : Program} {W : World} {sp : Nat → Bool} {a b : String} {gs : List (DataW H)} {ps : List MemPlace} (h : DataW.TrodVars enc P W sp [a, b] gs ps) : ∃ g1 g2, gs = [g1, g2] := by
  have := trodVars_length h
  match gs, this with
  | [g1, g2], _ => exact ⟨g1, g2, rfl⟩
theorem trodVars_single {H : Type} {enc : TypeId × Value → H} {P : Program} {W : World} {sp : Nat → Bool} {a : String} {gs : List (DataW H)} {ps : List MemPlace} (h : DataW.TrodVars enc P W sp [a] gs ps) : ∃ g1, gs = [g1] := by
  have := trodVars_length h
  match gs, this with
  | [g1], _ => exact ⟨g1, rfl⟩
theorem tabIs_second {P : Program} {W : World} {name : String} {k : IntKind} {zs : List Int} {x : String × DataW Unit} {rest : List (String × DataW Unit)} {g : Nat} {t e : TypeId} {n : Nat}
    (hg : P.globalNamed name = some g) (hty : (P.globals[g]?).map (·.type) = some t) (ht : P.underlying t = some (.array n e)) (he : P.underlying e = some (.int k)) (hce : P.cellsOf e = 1) (hct : P.cellsOf t = n)
    (h : laidMet P (x :: (name, Lib.tabData k zs) :: rest) W) : Lib.TabIs P W name k zs := by
  obtain ⟨_, ⟨_, _, _, _, _, _, _, _, _, _, ⟨g', t', cs, fuel, p, q, hg', ht', hvar, hd, _, _⟩, _⟩, _⟩ := h
  obtain rfl := Option.some.inj (hg.symm.trans hg')
  obtain rfl := Option.some.inj (hty.symm.trans ht')
  unfold Lib.TabIs
  rw [hvar, ← Lib.cells_of_tab ht he hce hct hd]
theorem lt_of_cell {W : World} {g : Nat} {v : Value} (h : W.cell? ⟨g, 0, none⟩ = some v) : g < W.heap.size := by
  rcases Nat.lt_or_ge g W.heap.size with hlt | hge
  · exact hlt
  · have hnone : W.heap[g]? = none := Array.getElem?_eq_none hge
    simp [World.cell?, hnone] at h
theorem gSyn : Tryd.prog.globalNamed "loop.example/softwareradio/impl.syndromes" = some 0 := by kernel_rfl
theorem tSyn : (Tryd.prog.globals[0]?).map (·.type) = some 53 := by kernel_rfl
theorem synTab_of_laid {W : World} {rest : List (String × DataW Unit)} (h : laidMet Tryd.prog (("loop.example/softwareradio/impl.syndromes", Lib.tabData .i64 synL) :: rest) W) : SynTab W := by
  have hT := Lib.tabIs_of_head gSyn tSyn Tryd.underlying53 Tryd.underlying3 (by kernel_rfl) (by kernel_rfl) h
  have hc : ∀ i, i < 128 → W.cell? ⟨0, i, none⟩ = some (.int .i64 (el synL i)) := fun i hi => hT.cell gSyn i hi
  exact ⟨lt_of_cell (hc 0 (by omega)), hc⟩
theorem gCor : Tryd.prog.globalNamed "loop.example/softwareradio/impl.corrections" = some 1 := by kernel_rfl
theorem tCor : (Tryd.prog.globals[1]?).map (·.type) = some 55 := by kernel_rfl
theorem corTab_of_laid {W : World} {x : String × DataW Unit} {rest : List (String × DataW Unit)} (h : laidMet Tryd.prog (x :: ("loop.example/softwareradio/impl.corrections", Lib.tabData .i64 corL) :: rest) W) : CorTab W := by
  have hT := tabIs_second gCor tCor Tryd.underlying55 Tryd.underlying3 (by kernel_rfl) (by kernel_rfl) h
  have hc : ∀ i, i < 8 → W.cell? ⟨1, i, none⟩ = some (.int .i64 (el corL i)) := fun i hi => hT.cell gCor i hi
  exact ⟨lt_of_cell (hc 0 (by omega)), hc⟩
end Go.Proofs.YtflplihhakepfaaDoor
