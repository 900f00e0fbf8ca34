/-
  What the laws of chapter 16 draw: numbers, windows and lists of losses. No condition.
-/
import Derived.Test.YtenihedpbklmlaaRpPost
import Derived.Test.YtenihedpbklmlaaSeqDraw2
namespace Go.Proofs.Ytenihedpbklmlaa
open Go.RowKit

/-- A list of Booleans in memory of its own. -/
def GrowB (w : World) (base : Nat) (a : Option Addr) (n cap : Nat) (ls : List Bool) : Prop := w.ownsRow base 4 1 (.slice a n cap) n (ls.map Value.bool)
section
variable {w w' : World} {base n cap : Nat} {a : Option Addr} {ls : List Bool}
theorem GrowB.len (h : GrowB w base a n cap ls) : ls.length = n := by simpa using h.1
theorem GrowB.own (h : GrowB w base a n cap ls) : ∀ b, Value.ownBlock (.slice a n cap) = some b → base ≤ b := by
  intro b hb
  rcases h.2 with ⟨e, _⟩ | ⟨g, c, cur, e, hg, _⟩
  · rw [e] at hb; simp [Value.ownBlock] at hb
  · rw [e] at hb; simp [Value.ownBlock] at hb; omega
theorem GrowB.bls (h : GrowB w base a n cap ls) : Bls w w.heap.size a ls := fun hne => by
  have hlen := h.len
  rcases h.2 with ⟨_, h0⟩ | ⟨g, c, cur, e, hg, hh, hnc, hcm, hcs, htk⟩
  · exact absurd (List.eq_nil_of_length_eq_zero (by omega)) hne
  · injection e with e1 e2 e3
    subst e1 e3
    rw [Nat.mul_one] at hcs htk
    refine ⟨g, 0, rfl, (Array.getElem?_eq_some_iff.1 hh).1, fun i hi => ?_⟩
    have h1 : (cur.toList.take n)[i]? = (ls.map Value.bool)[i]? := by rw [htk]
    rw [List.getElem?_take, if_pos (by omega)] at h1
    have hic : i < cur.size := by omega
    simp [hic, hi] at h1
    simp [World.cell?, hh, hic, h1, bt, hi]
theorem GrowB.keep (h : GrowB w base a n cap ls) (hk : ∀ b, base ≤ b → b < w.heap.size → w'.heap[b]? = w.heap[b]?) : GrowB w' base a n cap ls := by
  refine ⟨h.1, ?_⟩
  rcases h.2 with h0 | ⟨g, c, cur, e, hg, hh, rest⟩
  · exact .inl h0
  · exact .inr ⟨g, c, cur, e, hg, (hk g hg (Array.getElem?_eq_some_iff.1 hh).1).trans hh, rest⟩
theorem GrowB.alloc (h : GrowB w base a n cap ls) (o : Obj) : GrowB (w.alloc o) base a n cap ls := h.keep fun b _ hb => Below.heap_alloc w o b hb
theorem GrowB.grownR {R : Nat} (h : GrowB w base a n cap ls) (hg : w.grownBy w' (some R)) (hR : R < base) : GrowB w' base a n cap ls := h.keep fun b hb hl => hg.block b hl (fun e => by injection e with e; omega)
end
set_option maxRecDepth 10000 in
theorem GrowB.lit0 (w : World) (base : Nat) (hb : base ≤ w.heap.size) : GrowB (w.alloc (.cells #[] 4)) base (some ⟨w.heap.size, 0, none⟩) 0 0 [] :=
  ⟨rfl, .inr ⟨w.heap.size, 0, #[], rfl, hb, heap_alloc_last _ _, Nat.le_refl _, by simp, by simp, rfl⟩⟩
section
variable {w : World} {ops : Array Oper} {rest : List Oper} {o : Oper} {a : Act} {Q : Exit → Act → World → Prop}
set_option maxRecDepth 10000 in
theorem wpList_appendB1 (s x : Operand) (base : Nat) (A : Option Addr) (n cap : Nat) (ls : List Bool) (ad : Addr) (v : Bool)
    (hgd : o.guard = none) (ho : o.op = .call { callee := .builtin .append, args := #[s, x], argTypes := #[31, 31] }) (hs : a.eval s = .slice A n cap) (hx : a.eval x = .slice (some ad) 1 1)
    (hg : GrowB w base A n cap ls) (hc : w.cell? ad = some (.bool v)) (hn : n < 1099511627776) (hb : base ≤ w.heap.size)
    (h : ∀ a' cap' w', GrowB w' base a' (n + 1) cap' (ls ++ [v]) → Below base w w' → wpList Try.prog ops Q rest (a.put o.dst (.slice a' (n + 1) cap')) w') : wpList Try.prog ops Q (o :: rest) a w := by
  obtain ⟨i0, hi0, hz0, hz1, hz2⟩ := info_parts Try.infoBool1
  refine wpList_append_own w hgd s x _ ho base 4 i0 (.bool false) 1 1 Try.underlying31 hi0 hz0 hz1 hz2 rfl (by omega) _ n _ hs hg ad 1 1 [.bool v] hx rfl ?_ (by simp [Value.oneCell']) (by unfold maxLen; omega) (by omega) hb ?_
  · intro j u hj
    match j, hj with
    | 0, hj => simp at hj; subst hj; simpa [Addr.add] using hc
  · intro v' w' h2 h3 _
    rcases h2.2 with ⟨_, h0⟩ | ⟨g, c, cur, e, _⟩
    · omega
    · subst e
      exact h _ _ _ (by simpa [GrowB] using h2) ((Below.refl _ _).grown h3 hb hg.own)
end
/-- What drawing losses leaves. -/
def LostPost (R p : Nat) (w : World) (e : Ending) (w' : World) : Prop :=
  ∃ ls a c p', e = .returned (.slice a ls.length c) ∧ ls.length ≤ 320 ∧ Bls w' w'.heap.size a ls ∧ Rd w' R p' ∧ p' ≤ p + 50 ∧ w.grownBy w' (some R)
set_option maxRecDepth 10000 in
theorem bls_all {w : World} {b n : Nat} (h : w.rowIs b 4 n (fun i => .bool (decide (i < n)))) : Bls w w.heap.size (some ⟨b, 0, none⟩) (List.replicate n true) := fun _ =>
  ⟨b, 0, rfl, World.rowIs.lt h, fun i hi => by
    rw [List.length_replicate] at hi
    rw [Nat.zero_add, World.rowIs.cell h hi]
    simp [bt, hi]⟩
set_option maxRecDepth 10000 in
set_option maxHeartbeats 4000000 in
theorem l20Lost_any (R p : Nat) (w : World) (hr : Rd w R p) (hp : p ≤ 2000000) :
    Calls Try.prog 48 #[.pointer (some ⟨R, 0, none⟩)] w (LostPost R p w) := by
  have hRw : R < w.heap.size := hr.lt
  have R0 := Lib.hid (hr.alloc (.cells #[] 4))
  have L0 := Lib.hid (GrowB.lit0 w w.heap.size (Nat.le_refl _))
  have G0 := Lib.hid (grown_alloc (⟨rfl, rfl, rfl, Nat.le_refl _, fun _ _ _ => rfl⟩ : w.grownBy w (some R)) (.cells #[] 4))
  clear hr
  go_enter Try.func48, Try.ntmps48
  go_wp2_with fail
  refine (pick_any R p 5 _ R0.out (by omega) (by omega) (by omega)).mono ?_
  rintro e w1 ⟨v1, ⟨hv1, hv1'⟩, rfl, r1, g1⟩
  have R1 := Lib.hid r1
  have L1 := Lib.hid (L0.out.grownR g1 hRw)
  have G1 := Lib.hid (grown_trans G0.out g1)
  clear r1 g1 R0 L0 G0
  have q1 := wrapW (n := 1 + v1) (by omega)
  have q1' := wrapW' (n := 1 + v1) (by omega)
  go_wp2_with fail
  refine (pick_any R (p + 1) 40 w1 R1.out (by omega) (by omega) (by omega)).mono ?_
  rintro e w2 ⟨v2, ⟨hv2, hv2'⟩, rfl, r2, g2⟩
  have R2 := Lib.hid r2
  have L2 := Lib.hid (L1.out.grownR g2 hRw)
  have G2 := Lib.hid (grown_trans G1.out g2)
  clear r2 g2 R1 L1 G1
  obtain ⟨q0, rfl⟩ := Int.eq_ofNat_of_zero_le hv2
  have hq0 : q0 ≤ 39 := by omega
  clear hv2 hv2' q1 q1'
  go_wp2
  go_loopw [3, 5] (fun s i wr => ∃ (q m cap p' : Nat) (ad : Option Addr) (ls : List Bool), q + m ≤ 39 ∧ i = .int .i64 (q : Int) ∧ s = .slice ad m cap ∧ GrowB wr w.heap.size ad m cap ls ∧ Rd wr R p' ∧ p' ≤ p + 2 + m ∧ w.grownBy wr (some R)) (fun _ i _ => (intOf i).toNat)
  case atStart => exact ⟨q0, 0, 0, p + 1 + 1, _, [], by omega, rfl, rfl, L2.out, R2.out, by omega, G2.out⟩
  case round =>
    obtain ⟨q, m, cap, p', ad, ls, hqm, rfl, rfl, hg, hrd, hp', hgr⟩ := hrel
    have HG := Lib.hid hg
    have HR := Lib.hid hrd
    have HW := Lib.hid hgr
    have hsz : w.heap.size ≤ wr.heap.size := hgr.size
    clear hg hrd hgr R2 L2 G2
    by_cases hq : 0 < q
    · have hqi : 0 < (q : Int) := by omega
      have q2 := wrapW (n := 1 + v1 + 1) (by omega)
      have q2' := wrapW' (n := 1 + v1 + 1) (by omega)
      have q3 := wrapW (n := 1 + v1) (by omega)
      have q3' := wrapW' (n := 1 + v1) (by omega)
      go_wp2_with fail
      refine (pick_any R p' (1 + v1 + 1) wr HR.out (by omega) (by omega) (by omega)).mono ?_
      rintro e w3 ⟨x, ⟨hx, hx'⟩, rfl, r3, g3⟩
      have R3 := Lib.hid r3
      have L3 := Lib.hid (HG.out.grownR g3 hRw)
      have G3 := Lib.hid (grown_trans HW.out g3)
      have hz3 : w.heap.size ≤ w3.heap.size := Nat.le_trans hsz g3.size
      clear r3 g3 q2 q2' q3 q3' hx hx'
      go_wp2_with (at_builtin; refine wpList_appendB1 (.tmp 17) (.tmp 23) w.heap.size ad m cap ls ⟨w3.heap.size, 0, none⟩ (x == 0) rfl rfl rfl rfl (L3.out.alloc _) (by simp) (by omega) (by simp; omega) ?_; intro a3 cap3 w9 hg3 hb3; have HG3 := Lib.hid hg3; have HR3 := Lib.hid ((R3.out.alloc _).below hb3 hRw); have HW3 := Lib.hid (grown_below (grown_alloc G3.out _) hb3 (Nat.le_refl _)); clear hg3 hb3)
      go_roundw
      case rel => exact ⟨q - 1, m + 1, cap3, p' + 1, a3, _, by omega, by go_num, rfl, HG3.out, HR3.out, by omega, HW3.out⟩
      case measure => simp [intOf]; omega
    · obtain rfl : q = 0 := by omega
      go_wp2_with fail
      refine (odd_any R p' 20 wr HR.out (by omega) (by omega) (by omega)).mono ?_
      rintro e w5 ⟨b5, rfl, r5, g5⟩
      have R5 := Lib.hid r5
      have L5 := Lib.hid (HG.out.grownR g5 hRw)
      have G5 := Lib.hid (grown_trans HW.out g5)
      have hR5 : w.heap.size ≤ w5.heap.size := Nat.le_trans hsz g5.size
      clear r5 g5
      cases b5
      · go_wp2
        go_ret
        exact ⟨ls, ad, cap, p' + 1, by rw [L5.out.len]; rfl, by rw [L5.out.len]; omega, L5.out.bls, R5.out, by omega, G5.out⟩
      · have hmk : ∀ w, (Instr.makeSlice 31 (.int .i64 320) (.int .i64 320)).run Try.prog w = .ok (.slice (some ⟨w.heap.size, 0, none⟩) 320 320) (w.alloc (.cells (madeCells #[.bool false] 320) 4)) := fun w => makeB 320 (by omega) w
        have RW := Lib.hid ((World.rowIs_made w5 (.bool false) 320 4).congr (g := fun i => .bool (decide (i < 0))) fun i _ => rfl)
        have R6 := Lib.hid (R5.out.alloc (.cells (madeCells #[.bool false] 320) 4))
        have G6 := Lib.hid (grown_alloc G5.out (.cells (madeCells #[.bool false] 320) 4))
        go_wp2
        clear hmk
        generalize w5.alloc (.cells (madeCells #[.bool false] 320) 4) = w6 at RW R6 G6 ⊢
        generalize hb5 : w5.heap.size = b5 at RW hR5 ⊢
        have hRb : R < b5 := by omega
        clear hb5
        go_loopw [6] (fun i wr => ∃ k : Nat, k ≤ 320 ∧ i = .int .i64 (k : Int) ∧ wr.rowIs b5 4 320 (fun j => .bool (decide (j < k))) ∧ Rd wr R (p' + 1) ∧ w.grownBy wr (some R)) (fun i _ => 320 - (intOf i).toNat)
        case atStart => exact ⟨0, by omega, rfl, RW.out, R6.out, G6.out⟩
        case round =>
          obtain ⟨k, hk, rfl, hrow, hrd, hgr⟩ := hrel
          have HRow := Lib.hid hrow
          have HRd := Lib.hid hrd
          have HGr := Lib.hid hgr
          clear hrow hrd hgr RW R6 G6
          by_cases hk3 : k < 320
          · have ck := World.rowIs.cell HRow.out hk3
            have fk := World.rowIs.frozen HRow.out k
            have hkI : (k : Int) < 320 := by omega
            have HS := Lib.hid ((World.rowIs.set HRow.out k (.bool true)).congr (g := fun j => .bool (decide (j < k + 1))) fun i _ => by
              by_cases e : i = k
              · subst e; simp
              · simp only [e, if_false]; congr 1; rw [decide_eq_decide]; omega)
            have HR2 := Lib.hid (HRd.out.below (B := b5) ((Below.refl _ _).setCell (p := ⟨b5, k, none⟩) (Nat.le_refl _) (.bool true)) hRb)
            have HG2 := Lib.hid (show w.grownBy (wr.setCell ⟨b5, k, none⟩ (.bool true)) (some R) from grown_below HGr.out ((Below.refl w.heap.size wr).setCell (p := ⟨b5, k, none⟩) hR5 (.bool true)) (Nat.le_refl _))
            go_wp2
            go_roundw
            case rel => exact ⟨k + 1, by omega, by go_num, HS.out, HR2.out, HG2.out⟩
            case measure => simp [intOf]; omega
          · obtain rfl : k = 320 := by omega
            go_wp2
            go_ret
            exact ⟨List.replicate 320 true, some ⟨b5, 0, none⟩, 320, p' + 1, by rw [List.length_replicate]; rfl, by rw [List.length_replicate]; omega, bls_all HRow.out, HRd.out, by omega, HGr.out⟩
/-- The literals of l20Go. -/
def Lit7 (R : Nat) (W : World) (b : Nat) : Prop := R < b ∧ W.heap[b]? = some (.cells #[.int .i64 0, .int .i64 0, .int .i64 0, .int .i64 0, .int .i64 0, .int .i64 1, .int .i64 2] 3 (0, 0))
def Lit3 (R : Nat) (v : Int) (W : World) (b : Nat) : Prop := R < b ∧ W.heap[b]? = some (.cells #[.int .i64 v, .int .i64 0, .int .i64 9] 3 (0, 0))
theorem lit7_new {R : Nat} {W : World} (h : R < W.heap.size) : Lit7 R (W.alloc (.cells #[.int .i64 0, .int .i64 0, .int .i64 0, .int .i64 0, .int .i64 0, .int .i64 1, .int .i64 2] 3)) W.heap.size := ⟨h, heap_alloc_last _ _⟩
theorem lit3_new {R : Nat} {v : Int} {W : World} (h : R < W.heap.size) : Lit3 R v (W.alloc (.cells #[.int .i64 v, .int .i64 0, .int .i64 9] 3)) W.heap.size := ⟨h, heap_alloc_last _ _⟩
section
variable {R b : Nat} {v : Int} {W W' : World}
theorem Lit7.grown (h : Lit7 R W b) (g : W.grownBy W' (some R)) : Lit7 R W' b := ⟨h.1, (g.block b (Array.getElem?_eq_some_iff.1 h.2).1 (fun e => by injection e with e; have := h.1; omega)).trans h.2⟩
theorem Lit3.grown (h : Lit3 R v W b) (g : W.grownBy W' (some R)) : Lit3 R v W' b := ⟨h.1, (g.block b (Array.getElem?_eq_some_iff.1 h.2).1 (fun e => by injection e with e; have := h.1; omega)).trans h.2⟩
theorem Lit7.alloc (h : Lit7 R W b) (o : Obj) : Lit7 R (W.alloc o) b := ⟨h.1, (Below.heap_alloc _ _ _ (Array.getElem?_eq_some_iff.1 h.2).1).trans h.2⟩
theorem Lit3.alloc (h : Lit3 R v W b) (o : Obj) : Lit3 R v (W.alloc o) b := ⟨h.1, (Below.heap_alloc _ _ _ (Array.getElem?_eq_some_iff.1 h.2).1).trans h.2⟩
theorem Lit7.get (h : Lit7 R W b) {k : Nat} (hk : k < 7) : ∃ i : Nat, i < 3 ∧ W.cell? ⟨b, k, none⟩ = some (.int .i64 (i : Int)) := by
  match k, hk with
  | 0, _ => exact ⟨0, by omega, by simp [World.cell?, h.2]⟩
  | 1, _ => exact ⟨0, by omega, by simp [World.cell?, h.2]⟩
  | 2, _ => exact ⟨0, by omega, by simp [World.cell?, h.2]⟩
  | 3, _ => exact ⟨0, by omega, by simp [World.cell?, h.2]⟩
  | 4, _ => exact ⟨0, by omega, by simp [World.cell?, h.2]⟩
  | 5, _ => exact ⟨1, by omega, by simp [World.cell?, h.2]⟩
  | 6, _ => exact ⟨2, by omega, by simp [World.cell?, h.2]⟩
theorem Lit3.get (h : Lit3 R v W b) {k : Nat} (hk : k < 3) : ∃ y : Int, W.cell? ⟨b, k, none⟩ = some (.int .i64 y) := by
  match k, hk with
  | 0, _ => exact ⟨v, by simp [World.cell?, h.2]⟩
  | 1, _ => exact ⟨0, by simp [World.cell?, h.2]⟩
  | 2, _ => exact ⟨9, by simp [World.cell?, h.2]⟩
end
/-- What drawing a number, a window and losses leaves. -/
def GoPost (R : Nat) (w : World) (e : Ending) (w' : World) : Prop :=
  ∃ n v ls a c, e = .returned (.tuple #[.int .i64 n, .int .i64 v, .slice a ls.length c]) ∧ ls.length ≤ 320 ∧ Bls w' w'.heap.size a ls ∧ w.grownBy w' (some R)
theorem thirteen {v : Int} (h : 0 ≤ v ∧ v < 14) : ∃ q : Int, v.tdiv 13 = q ∧ (0 ≤ q ∧ q ≤ 1) ∧ IntKind.i64.wrap q = q ∧ wrap64 q = q := by
  refine ⟨_, rfl, ?_⟩
  rw [Int.tdiv_eq_ediv_of_nonneg h.1]
  exact ⟨by omega, wrapW (by omega), wrapW' (by omega)⟩
end Go.Proofs.Ytenihedpbklmlaa
