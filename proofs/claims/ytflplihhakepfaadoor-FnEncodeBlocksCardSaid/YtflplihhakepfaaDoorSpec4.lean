/-
  What the model's BytesOfBits answers. No condition.
-/
import Derived.Test.YtflplihhakepfaaDoorSpec3
namespace Go.Proofs.YtflplihhakepfaaDoor
open Go.RowKit

section
variable {w : World} {ops : Array Oper} {rest : List Oper} {o : Oper} {a : Act} {Q : Exit → Act → World → Prop}
theorem wpList_appendB (s x : Operand) (base : Nat) (A : Option Addr) (n cap : Nat) (xs : List Int) (ad : Addr) (v : Int)
    (hgd : o.guard = none) (ho : o.op = .call { callee := .builtin .append, args := #[s, x], argTypes := #[22, 22] }) (hs : a.eval s = .slice A n cap) (hx : a.eval x = .slice (some ad) 1 1)
    (hg : Grow .u8 5 w base A n cap xs) (hc : w.cell? ad = some (.int .u8 v)) (hn : n < 1099511627776) (hb : base ≤ w.heap.size)
    (h : ∀ a' cap' w', Grow .u8 5 w' base a' (n + 1) cap' (xs ++ [v]) → Below base w w' → wpList Tryd.prog ops Q rest (a.put o.dst (.slice a' (n + 1) cap')) w') : wpList Tryd.prog ops Q (o :: rest) a w := by
  obtain ⟨i0, hi0, hz0, hz1, hz2⟩ := info_parts Tryd.infoByte
  refine wpList_append_own w hgd s x _ ho base 5 i0 (.int .u8 0) 1 1 Tryd.underlying22 hi0 hz0 hz1 hz2 rfl (by omega) _ n _ hs hg ad 1 1 [.int .u8 v] hx rfl ?_ (by simp [Value.oneCell']) (by unfold maxLen; omega) (by omega) hb ?_
  · intro j u hj
    match j, hj with
    | 0, hj => simp at hj; subst hj; simpa [Addr.add] using hc
  · intro v' w' h2 h3 _
    obtain ⟨a', cap', rfl, hgr, hbl⟩ := grow_of_own hg hb h2 h3
    exact h _ _ _ hgr hbl
end
theorem byteList_succ (f : Nat → Bool) (k : Nat) : byteList f (k + 1) = byteList f k ++ [(msb f (8 * k) 8 : Int)] := by
  simp [byteList, List.range_succ]
theorem bytesPost_grow {xs : List Int} {ok : Bool} {w w' : World} {a : Option Addr} {n cap : Nat} (h : Grow .u8 5 w' w.heap.size a n cap xs) (hb : Below w.heap.size w w') : BytesPost xs ok w (.returned (.tuple #[.slice a n cap, .bool ok])) w' := by
  have hl := h.len
  refine ⟨a, cap, by rw [hl], fun hne => ?_, hb⟩
  have hp : 0 < n := by rw [← hl]; exact List.length_pos_iff.2 hne
  obtain ⟨b, f, rfl, h1, _, h3, h4, h5⟩ := h.row hp
  exact ⟨b, cap, rfl, h1, by omega, f, h4, fun i hi => h5 i (by omega)⟩
theorem bitsF_val {xs : List Int} (h : bitsOk xs = true) {j : Nat} (hj : j < xs.length) : el xs j = ((bitsF xs xs.length j).toNat : Int) := by
  unfold bitsF
  rcases bit_cases h hj with e | e <;> rw [e] <;> simp [hj]

end Go.Proofs.YtflplihhakepfaaDoor
