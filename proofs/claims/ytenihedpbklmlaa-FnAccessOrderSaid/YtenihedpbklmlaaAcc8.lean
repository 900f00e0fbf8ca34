/-
  Lists of waiting senders of a call's own, and what takeSlot leaves: all senders of the next slot, in one list; the others in the queue. Conditions: the queue lies there, is a heap and not empty.
-/
import Derived.Test.YtenihedpbklmlaaAcc6
import Derived.Test.YtenihedpbklmlaaAcc7
namespace Go.Proofs.Ytenihedpbklmlaa
open Go.RowKit

/-- The cells of a list of senders; a list that may be appended to. -/
def wtC (x : Wt) : List Value := [.int .i64 x.n, .int .i64 x.s, .int .i64 x.d, .int .i64 x.f]
def wtCs (ps : List Wt) : List Value := ps.flatMap wtC
theorem wtCs_length (ps : List Wt) : (wtCs ps).length = ps.length * 4 := by
  induction ps with
  | nil => rfl
  | cons p ps ih => rw [wtCs, List.flatMap_cons, List.length_append, ← wtCs, ih, List.length_cons]; simp [wtC]; omega
theorem wtCs_snoc (ps : List Wt) (p : Wt) : wtCs ps ++ wtC p = wtCs (ps ++ [p]) := by simp [wtCs]
theorem wtCs_at : ∀ (ps : List Wt) (i : Nat), i < ps.length → (wtCs ps)[i * 4]? = some (.int .i64 (qn ps i).n) ∧ (wtCs ps)[i * 4 + 1]? = some (.int .i64 (qn ps i).s) ∧ (wtCs ps)[i * 4 + 2]? = some (.int .i64 (qn ps i).d) ∧ (wtCs ps)[i * 4 + 3]? = some (.int .i64 (qn ps i).f)
  | [], i, h => by simp at h
  | p :: ps, 0, _ => ⟨rfl, rfl, rfl, rfl⟩
  | p :: ps, i + 1, h => by
    have ih := wtCs_at ps i (by simpa using h)
    have e : wtCs (p :: ps) = .int .i64 p.n :: .int .i64 p.s :: .int .i64 p.d :: .int .i64 p.f :: wtCs ps := rfl
    rw [e, show (i + 1) * 4 = i * 4 + 1 + 1 + 1 + 1 by omega]
    exact ih
def GrowW (w : World) (base : Nat) (a : Option Addr) (n cap : Nat) (ps : List Wt) : Prop := w.ownsRow base 56 4 (.slice a n cap) n (wtCs ps)
/-- The slice that begins at a holds the senders, in a block from B on. -/
def Wts (w : World) (B : Nat) (a : Option Addr) (ps : List Wt) : Prop :=
  ps ≠ [] → ∃ b, a = some ⟨b, 0, none⟩ ∧ B ≤ b ∧ b < w.heap.size ∧ ∀ i, i < ps.length → w.cell? ⟨b, i * 4, none⟩ = some (.int .i64 (qn ps i).n) ∧ w.cell? ⟨b, i * 4 + 1, none⟩ = some (.int .i64 (qn ps i).s) ∧ w.cell? ⟨b, i * 4 + 2, none⟩ = some (.int .i64 (qn ps i).d) ∧ w.cell? ⟨b, i * 4 + 3, none⟩ = some (.int .i64 (qn ps i).f)
section
variable {w w' : World} {base n cap B : Nat} {a : Option Addr} {ps : List Wt}
theorem GrowW.len (h : GrowW w base a n cap ps) : ps.length = n := by
  have := h.1
  rw [wtCs_length] at this
  omega
theorem GrowW.nil (w : World) (base : Nat) : GrowW w base none 0 0 [] := ⟨rfl, .inl ⟨rfl, rfl⟩⟩
theorem GrowW.own (h : GrowW w base a n cap ps) : ∀ b, Value.ownBlock (.slice a n cap) = some b → base ≤ b := by
  intro b hb
  rcases h.2 with ⟨e, _⟩ | ⟨g, c, cur, e, hg, _⟩
  · rw [e] at hb; simp [Value.ownBlock] at hb
  · rw [e] at hb; simp [Value.ownBlock] at hb; omega
theorem GrowW.keep (h : GrowW w base a n cap ps) (hk : ∀ b, base ≤ b → b < w.heap.size → w'.heap[b]? = w.heap[b]?) : GrowW w' base a n cap ps := by
  refine ⟨h.1, ?_⟩
  rcases h.2 with h0 | ⟨g, c, cur, e, hg, hh, rest⟩
  · exact .inl h0
  · exact .inr ⟨g, c, cur, e, hg, (hk g hg (Array.getElem?_eq_some_iff.1 hh).1).trans hh, rest⟩
theorem GrowW.out {D E : Nat} (h : GrowW w base a n cap ps) (hk : KeptOut D E w w') (hE : E ≤ base) : GrowW w' base a n cap ps := h.keep fun b hb hl => hk.block b hl (.inr (by omega))
theorem GrowW.wts (h : GrowW w base a n cap ps) : Wts w base a ps := fun hne => by
  have hlen := h.len
  have hp : 0 < n := by rw [← hlen]; exact List.length_pos_iff.2 hne
  rcases h.2 with ⟨_, h0⟩ | ⟨g, c, cur, e, hg, hh, hnc, hcm, hcs, htk⟩
  · omega
  · injection e with e1 e2 e3
    subst e1 e3
    refine ⟨g, rfl, hg, (Array.getElem?_eq_some_iff.1 hh).1, fun i hi => ?_⟩
    obtain ⟨c1, c2, c3, c4⟩ := wtCs_at ps i hi
    rw [← htk, List.getElem?_take, if_pos (by omega)] at c1 c2 c3 c4
    refine ⟨?_, ?_, ?_, ?_⟩
    · rw [cell_of_row _ _ _ _ _ _ hh]; simpa using c1
    · rw [cell_of_row _ _ _ _ _ _ hh]; simpa using c2
    · rw [cell_of_row _ _ _ _ _ _ hh]; simpa using c3
    · rw [cell_of_row _ _ _ _ _ _ hh]; simpa using c4
theorem Wts.keep (h : Wts w B a ps) {D E : Nat} (hk : KeptOut D E w w') (hE : E ≤ B) : Wts w' B a ps := fun hne => by
  obtain ⟨b, e, hb, hl, hc⟩ := h hne
  have hbk := hk.block b hl (.inr (by omega))
  exact ⟨b, e, hb, Nat.lt_of_lt_of_le hl hk.size, fun i hi => by
    obtain ⟨c1, c2, c3, c4⟩ := hc i hi
    exact ⟨(World.cell?_of_block hbk).trans c1, (World.cell?_of_block hbk).trans c2, (World.cell?_of_block hbk).trans c3, (World.cell?_of_block hbk).trans c4⟩⟩
theorem Wts.next (h : Wts w B a ps) (hb : Below w.heap.size w w') : Wts w' B a ps := h.keep (KeptOut.of_below (B := 0) (C := 0) hb) (Nat.zero_le _)
end
section
variable {w : World} {ops : Array Oper} {rest : List Oper} {o : Oper} {a : Act} {Q : Exit → Act → World → Prop}
set_option maxRecDepth 10000 in
theorem wpList_appendW (s x : Operand) (base : Nat) (A : Option Addr) (n cap : Nat) (ps : List Wt) (g : Nat) (y : Wt)
    (hgd : o.guard = none) (ho : o.op = .call { callee := .builtin .append, args := #[s, x], argTypes := #[51, 51] }) (hs : a.eval s = .slice A n cap) (hx : a.eval x = .slice (some ⟨g, 0, none⟩) 1 1)
    (hg : GrowW w base A n cap ps) (hc : w.heap[g]? = some (.cells #[.int .i64 y.n, .int .i64 y.s, .int .i64 y.d, .int .i64 y.f] 56 (0, 0))) (hn : n < 1099511627775) (hb : base ≤ w.heap.size)
    (h : ∀ a' cap' w', GrowW w' base a' (n + 1) cap' (ps ++ [y]) → Below base w w' → wpList Try.prog ops Q rest (a.put o.dst (.slice a' (n + 1) cap')) w') : wpList Try.prog ops Q (o :: rest) a w := by
  obtain ⟨i0, hi0, hz0, hz1, hz2⟩ := infoWt_parts
  refine wpList_append_own w hgd s x _ ho base 56 i0 _ 4 32 Try.underlying51 hi0 hz0 hz1 hz2 rfl (by omega) _ n _ hs hg ⟨g, 0, none⟩ 1 1 (wtC y) hx rfl ?_ (fun q hq => by simp [wtC] at hq; rcases hq with rfl | rfl | rfl | rfl <;> rfl) (by unfold maxLen; omega) (by omega) hb ?_
  · intro j u hj
    match j, hj with
    | 0, hj => simp [wtC] at hj; subst hj; exact cell_of_row _ _ 0 _ _ _ hc
    | 1, hj => simp [wtC] at hj; subst hj; exact cell_of_row _ _ 1 _ _ _ hc
    | 2, hj => simp [wtC] at hj; subst hj; exact cell_of_row _ _ 2 _ _ _ hc
    | 3, hj => simp [wtC] at hj; subst hj; exact cell_of_row _ _ 3 _ _ _ hc
  · intro v' w' h2 h3 _
    rw [wtCs_snoc] at h2
    rcases h2.2 with ⟨_, h0⟩ | ⟨g', c, cur, e, _⟩
    · omega
    · subst e
      exact h _ _ _ h2 ((Below.refl _ _).grown h3 hb hg.own)
end
theorem KeptOut.thenBelow {B C : Nat} {w w1 w2 : World} (h : KeptOut B C w w1) (g : Below w.heap.size w1 w2) : KeptOut B C w w2 :=
  ⟨g.os.trans h.os, g.tape.trans h.tape, g.output.trans h.output, Nat.le_trans h.size g.size, fun j hj hd => (g.block j hj).trans (h.block j hj hd)⟩
theorem QV.under {W W' : World} {v b cap B : Nat} {L : List Wt} (h : QV W v b cap L) (hb : Below B W W') (hv : v < B) : QV W' v b cap L := by
  obtain ⟨h1, h2, h3, h4⟩ := h
  exact ⟨h1, h2, h3.of_block (hb.block v hv), h4.keep (hb.block b (by omega))⟩
/-- What takeSlot leaves: the senders of the least slot; the others. -/
def TakePost (W : World) (v b cap : Nat) (L : List Wt) (e : Ending) (w' : World) : Prop :=
  ∃ a c S M, e = .returned (.slice a S.length c) ∧ QV w' v b cap M ∧ Hp M M.length ∧ L.Perm (M ++ S) ∧ S ≠ [] ∧ S.length ≤ 8 ∧ (∀ x ∈ S, x.s = sl L 0) ∧ (∀ x ∈ M, sl L 0 < x.s) ∧ Wts w' W.heap.size a S ∧ KeptOut b (v + 1) W w'
def lenV : Value → Nat
  | .slice _ n _ => n
  | _ => 0
theorem qn_mem {L : List Wt} {i : Nat} (hi : i < L.length) : qn L i ∈ L := by rw [qn_get hi]; exact List.getElem_mem hi
theorem mem_qn {L : List Wt} {x : Wt} (h : x ∈ L) : ∃ i, i < L.length ∧ qn L i = x := by
  obtain ⟨i, hi, rfl⟩ := List.getElem_of_mem h
  exact ⟨i, hi, qn_get hi⟩
set_option maxRecDepth 10000 in
set_option maxHeartbeats 4000000 in
theorem takeSlot_any (W : World) (v b cap : Nat) (L : List Wt) (h : QV W v b cap L) (hh : Hp L L.length) (h0 : 0 < L.length) (hs0 : sl L 0 ≤ 1000) :
    Calls Try.prog 41 #[.pointer (some ⟨v, 0, none⟩)] W (TakePost W v b cap L) := by
  have HQ0 := Lib.hid h
  have HH0 := Lib.hid hh
  have hcv := h.cell
  have hbv := h.lt
  obtain ⟨_, c1, _, _⟩ := h.2.2.2.cells h0
  simp only [Nat.zero_mul, Nat.zero_add] at c1
  obtain ⟨m, hm⟩ : ∃ m, m = (qn L 0).s := ⟨_, rfl⟩
  rw [← hm] at c1
  have h0' : 0 < (L.length : Int) := by omega
  have HM := Lib.hid (show sl L 0 = m from hm.symm)
  have HML := Lib.hid (fun c (hc : c < L.length) => show m ≤ sl L c by rw [hm]; exact hp_least hh c hc)
  have H0 := Lib.hid h0
  have hL8 := Lib.hid h.len
  have HB := Lib.hid (show m ≤ 1000 by rw [hm]; exact hs0)
  clear h hh hm h0
  go_enter Try.func41, Try.ntmps41
  go_wp2
  clear hcv c1
  go_loopw [4] (fun o wr => ∃ (n c : Nat) (a : Option Addr) (S M : List Wt), o = .slice a n c ∧ QV wr v b cap M ∧ Hp M M.length ∧ L.Perm (M ++ S) ∧ (∀ x ∈ S, x.s = m) ∧ (∀ x ∈ M, m ≤ x.s) ∧ GrowW wr W.heap.size a n c S ∧ KeptOut b (v + 1) W wr) (fun o _ => L.length - lenV o)
  case atStart => exact ⟨0, 0, none, [], L, rfl, HQ0.out, HH0.out, by rw [List.append_nil], fun x hx => by simp at hx, fun x hx => by obtain ⟨i, hi, rfl⟩ := mem_qn hx; exact HML.out i hi, GrowW.nil _ _, KeptOut.refl _ _ _⟩
  case round =>
    obtain ⟨n, c, a, S, M, rfl, hq, hh, hp, hS, hM, hg, hk⟩ := hrel
    have HQ := Lib.hid hq
    have HH := Lib.hid hh
    have HP := Lib.hid hp
    have HS := Lib.hid hS
    have HMM := Lib.hid hM
    have HG := Lib.hid hg
    have HK := Lib.hid hk
    have hcv := hq.cell
    have hSn : S.length = n := hg.len
    have hlen : L.length = M.length + n := by rw [hp.length_eq, List.length_append, hSn]
    have HLEN := Lib.hid hlen
    have h8 := hL8.out
    have hm1 : ((m : Nat) : Int) + 1 = ((m + 1 : Nat) : Int) := by omega
    have R1 : Hid (IntKind.i64.wrap ((m : Int) + 1) = (m : Int) + 1 ∧ wrap64 ((m : Int) + 1) = (m : Int) + 1) := Lib.hid ⟨wrapW (by have := HB.out; omega), wrapW' (by have := HB.out; omega)⟩
    have hszr : W.heap.size ≤ wr.heap.size := hk.size
    clear hq hh hp hS hM hg hk hm1 HQ0 HH0
    by_cases hb : 0 < M.length ∧ (sl M 0 : Int) < (m : Int) + 1
    · have HBU := Lib.hid (busy_is wr b cap M ((m : Int) + 1) true HQ.out.2.2.2 (decide_eq_true hb))
      obtain ⟨k, hk⟩ : ∃ k, M.length = k + 1 := ⟨M.length - 1, by omega⟩
      have HPO := Lib.hid (pop_any wr v b cap k M HQ.out HH.out hk)
      have hy : (qn M 0).s = m := by
        have h1 := HMM.out _ (qn_mem hb.1)
        have h2 : ((qn M 0).s : Int) < (m : Int) + 1 := hb.2
        omega
      have HY := Lib.hid hy
      have hta : ∀ (u : Value) (w : World), (Instr.typeAssert (.iface 56 u) 20 56 false).run Try.prog w = .ok u w := run_assertWt
      have HKL := Lib.hid hk
      have HKn := Lib.hid (show n < 8 by omega)
      clear hb hk hy hlen
      obtain ⟨r1, r1'⟩ := R1.out
      go_wp2_with (first
        | (go_at_call 40; ((with_reducible refine HBU.out.mono ?_); rintro e w1 ⟨rfl, rfl⟩))
        | (go_at_call 56; ((with_reducible refine HPO.out.mono ?_); rintro e w2 ⟨rfl, M2, q2, h2, p2, l2, k2⟩; have Q2 := Lib.hid q2; have H2 := Lib.hid h2; have P2 := Lib.hid p2; have L2 := Lib.hid l2; have K2 := Lib.hid k2; have G2 := Lib.hid (HG.out.out k2 hbv.2); have S2 := Lib.hid k2.size; unfold wtV; clear q2 h2 p2 l2 k2))
        | (at_builtin; refine wpList_appendW (.tmp 17) (.tmp 22) W.heap.size a n c S w2.heap.size (qn M 0) rfl rfl rfl rfl (G2.out.keep fun j _ hj => Below.heap_alloc w2 _ j hj) (heap_alloc_last _ _) (by have := HKn.out; omega) (by simp; have := S2.out; omega) ?_; intro a3 c3 w3 hg3 hb3; have HG3 := Lib.hid hg3; have HB3 := Lib.hid hb3; clear hg3 hb3))
      clear r1 r1'
      go_roundw
      case rel =>
        have hp1 : L.Perm (M2 ++ (S ++ [qn M 0])) := by
          refine HP.out.trans ((P2.out.append_right S).trans ?_)
          rw [List.append_assoc]
          exact (List.perm_append_comm (l₁ := [qn M 0]) (l₂ := S)).append_left M2
        have hk2 := HK.out.andThen K2.out
        have hb4 : Below W.heap.size w2 w3 := ((Below.refl _ _).alloc hk2.size _).trans HB3.out
        exact ⟨n + 1, c3, a3, _, M2, rfl, Q2.out.under hb4 hbv.2, H2.out, hp1, fun x hx => by
          rcases List.mem_append.1 hx with hx | hx
          · exact HS.out x hx
          · rw [List.mem_singleton.1 hx]; exact HY.out, fun x hx => HMM.out x (P2.out.mem_iff.2 (List.mem_append_left _ hx)), HG3.out, hk2.thenBelow hb4⟩
      case measure =>
        have h1 := HLEN.out
        have h2 := HKL.out
        show L.length - (n + 1) < L.length - n
        omega
    · have HBU := Lib.hid (busy_is wr b cap M ((m : Int) + 1) false HQ.out.2.2.2 (decide_eq_false hb))
      have HF := Lib.hid hb
      clear hb hlen
      obtain ⟨r1, r1'⟩ := R1.out
      go_wp2_with (go_at_call 40; ((with_reducible refine HBU.out.mono ?_); rintro e w1 ⟨rfl, rfl⟩))
      clear r1 r1'
      go_ret
      have hf := HF.out
      have hlo : ∀ x ∈ M, m < x.s := fun x hx => by
        obtain ⟨i, hi, rfl⟩ := mem_qn hx
        have h1 := hp_least HH.out i hi
        have h2 : ¬ (sl M 0 : Int) < (m : Int) + 1 := fun h => hf ⟨by omega, h⟩
        show m < sl M i
        omega
      have hne : S ≠ [] := fun e => by
        subst e
        have hp0 := HP.out
        rw [List.append_nil] at hp0
        have h1 := hlo _ (hp0.mem_iff.1 (qn_mem H0.out))
        have h2 := HM.out
        unfold sl at h2
        omega
      have hw := HG.out.wts
      obtain rfl : S.length = n := hSn
      exact ⟨a, c, S, M, rfl, HQ.out, HH.out, HP.out, hne, by have := HLEN.out; omega, fun x hx => by rw [HM.out]; exact HS.out x hx, fun x hx => by rw [HM.out]; exact hlo x hx, hw, HK.out⟩
end Go.Proofs.Ytenihedpbklmlaa
