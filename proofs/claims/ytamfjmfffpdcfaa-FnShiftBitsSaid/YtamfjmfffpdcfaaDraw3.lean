/-
  How the laws draw two lists of bits, and what the small tests of the laws answer. Condition: the code has at most 2^20 bytes.
-/
import Derived.Test.YtamfjmfffpdcfaaDraw2
namespace Go.Proofs.Ytamfjmfffpdcfaa
open Go.RowKit

section
variable {w : World} {ops : Array Oper} {rest : List Oper} {o : Oper} {a : Act} {Q : Exit → Act → World → Prop}
theorem wpList_appendS (s x : Operand) (base : Nat) (A : Option Addr) (n cap : Nat) (xs ys : List Int) (ad : Addr) (m c B : Nat)
    (hgd : o.guard = none) (ho : o.op = .call { callee := .builtin .append, args := #[s, x], argTypes := #[25, 25] }) (hs : a.eval s = .slice A n cap) (hx : a.eval x = .slice (some ad) m c)
    (hg : Grow .i64 3 w base A n cap xs) (hy : Ints .i64 w B (some ad) ys) (hm : ys.length = m) (hn : n + m < 1099511627776) (hb : base ≤ w.heap.size)
    (h : ∀ a' cap' w', Grow .i64 3 w' base a' (n + m) cap' (xs ++ ys) → Below base w w' → a' ≠ none ∨ A = none → wpList Try.prog ops Q rest (a.put o.dst (.slice a' (n + m) cap')) w') : wpList Try.prog ops Q (o :: rest) a w := by
  obtain ⟨i0, hi0, hz0, hz1, hz2⟩ := info_parts Try.infoInt
  refine wpList_append_own w hgd s x _ ho base 3 i0 (.int .i64 0) 1 8 Try.underlying25 hi0 hz0 hz1 hz2 rfl (by omega) _ n _ hs hg ad m c (ys.map (Value.int .i64)) hx (by simp [hm]) ?_ (ints_oneCell _ _) (by unfold maxLen; omega) (by omega) hb ?_
  · intro j u hj
    have hjl : j < ys.length := by have := (List.getElem?_eq_some_iff.1 hj).1; simpa using this
    obtain ⟨b, off, e, _, hc⟩ := hy.at_ hjl
    injection e with e
    subst e
    have hadd : (⟨b, off, none⟩ : Addr).add j = ⟨b, off + j, none⟩ := by unfold Addr.add; split <;> simp_all
    rw [hadd, hc]
    simp [hjl] at hj
    rw [← hj, el_lt hjl]
  · intro v' w' h2 h3 h4
    have hlen : (xs.map (Value.int .i64) ++ ys.map (Value.int .i64)) = (xs ++ ys).map (Value.int .i64) := by simp
    rw [hlen] at h2
    have hsh : ∃ a' cap', v' = .slice a' (n + m) cap' := by
      rcases h2.2 with ⟨e, h0⟩ | ⟨g, c', cur, e, _⟩
      · exact ⟨none, 0, by rw [e, h0]⟩
      · exact ⟨_, _, e⟩
    obtain ⟨a', cap', rfl⟩ := hsh
    refine h a' cap' w' h2 ((Below.refl _ _).grown h3 hb hg.own) ?_
    by_cases hA : A = none
    · exact .inr hA
    · refine .inl fun e => ?_
      subst e
      rcases h2.2 with ⟨e, h0⟩ | ⟨g, c', cur, e, _⟩
      · have := (h4.1 e).1
        injection this with e1
        exact hA e1
      · injection e with e1; cases e1
end
theorem Grow.set {k : IntKind} {t : TypeId} {w : World} {base n cap b : Nat} {xs : List Int} (h : Grow k t w base (some ⟨b, 0, none⟩) n cap xs) (j : Nat) (v : Int) :
    Grow k t (w.setCell ⟨b, j, none⟩ (.int k v)) base (some ⟨b, 0, none⟩) n cap (xs.set j v) := by
  have := World.ownsRow.stored h j (.int k v)
  rw [← List.map_set] at this
  exact this.1
theorem Grow.addr0 {k : IntKind} {t : TypeId} {w : World} {base n cap : Nat} {a : Option Addr} {xs : List Int} (h : Grow k t w base a n cap xs) (hne : a ≠ none) : ∃ b, a = some ⟨b, 0, none⟩ ∧ base ≤ b := by
  rcases h.2 with ⟨e, _⟩ | ⟨g, c, cur, e, hg, _⟩
  · injection e with e1; exact absurd e1 hne
  · injection e with e1; exact ⟨g, e1, hg⟩
theorem small_set {xs : List Int} {x : Int} {j : Nat} (h : ∀ y ∈ xs, small y) (hx : small x) : ∀ y ∈ xs.set j x, small y := fun y hy => by
  rcases List.mem_or_eq_of_mem_set hy with hy | rfl
  · exact h y hy
  · exact hx

/-- Two drawn lists; only the reader was written besides. -/
def TwinPost (R most : Nat) (w : World) (e : Ending) (w' : World) : Prop :=
  ∃ xs ys a b c c', e = .returned (.tuple #[.slice a xs.length c, .slice b ys.length c']) ∧ xs.length ≤ most + 1 ∧ ys.length ≤ most + 1 ∧ (∀ x ∈ xs, small x) ∧ (∀ x ∈ ys, small x) ∧
    Ints .i64 w' w'.heap.size a xs ∧ Ints .i64 w' w'.heap.size b ys ∧ w.grownBy w' (some R)
def TwinRel (R p most n cap b : Nat) (w w1 : World) (k : Nat) (wr : World) : Prop :=
  ∃ ys p', (∀ x ∈ ys, small x) ∧ Grow .i64 3 wr w1.heap.size (some ⟨b, 0, none⟩) n cap ys ∧ Rd wr R p' ∧ p' ≤ p + 2 * most + 8 + 2 * k ∧ w.grownBy wr (some R) ∧ (∀ j, j < w1.heap.size → j ≠ R → wr.heap[j]? = w1.heap[j]?)
theorem ints_other {k : IntKind} {w1 wr : World} {R B : Nat} {a : Option Addr} {xs : List Int} {base n cap t : Nat} (h : Grow k t w1 base a n cap xs) (hR : R < base) (hk : ∀ j, j < w1.heap.size → j ≠ R → wr.heap[j]? = w1.heap[j]?) (hB : w1.heap.size ≤ B) : Ints k wr B a xs := fun hne => by
  have hlen := h.len
  have hp : 0 < n := by rw [← hlen]; exact List.length_pos_iff.2 hne
  obtain ⟨b, f, rfl, h1, hb, hc, hr, hf⟩ := h.row hp
  exact ⟨b, 0, rfl, by omega, fun i hi => by rw [Nat.zero_add, (hr.of_block (hk b hb (by omega))).cell (by omega), hf i (by omega)]⟩

theorem twin_size {k : IntKind} {t : TypeId} {w : World} {base n cap b : Nat} {xs : List Int} (h : Grow k t w base (some ⟨b, 0, none⟩) n cap xs) (_hb : base ≤ b) : base ≤ w.heap.size := by
  rcases h.2 with ⟨e, _⟩ | ⟨g, c, cur, e, hg, hh, _⟩
  · injection e with e1; cases e1
  · have := (Array.getElem?_eq_some_iff.1 hh).1; omega
theorem twin_lt {k : IntKind} {t : TypeId} {w : World} {base n cap b m j : Nat} {xs : List Int} (h : Grow k t w base (some ⟨b, 0, none⟩) n cap xs) (_ : m < n) (hj : j < base) (hb : base ≤ b) : j < w.heap.size := by
  have := twin_size h hb; omega
theorem grow_cell {k : IntKind} {t : TypeId} {w : World} {base n cap b i : Nat} {xs : List Int} (h : Grow k t w base (some ⟨b, 0, none⟩) n cap xs) (hi : i < n) : (∃ u, w.cell? ⟨b, i, none⟩ = some (.int k u)) ∧ w.frozen? ⟨b, i, none⟩ = false := by
  obtain ⟨b', f, e, _, _, hc, hr, hf⟩ := h.row (by omega)
  injection e with e
  injection e with e
  subst e
  exact ⟨⟨_, by rw [hr.cell (by omega), hf i hi]⟩, hr.frozen i⟩
theorem twin_step {R p most n cap b : Nat} {w w1 w5 : World} {k p' : Nat} {ys : List Int} {v : Int} (hs : ∀ x ∈ ys, small x) (hg : Grow .i64 3 w5 w1.heap.size (some ⟨b, 0, none⟩) n cap ys) (hr : Rd w5 R p') (hp : p' ≤ p + 2 * most + 8 + 2 * (k + 1))
    (hn : w.grownBy w5 (some R)) (hk : ∀ j, j < w1.heap.size → j ≠ R → w5.heap[j]? = w1.heap[j]?) (hR : R < w.heap.size) (hw : w.heap.size ≤ w1.heap.size) (hb : w1.heap.size ≤ b) (hv : small v) :
    TwinRel R p most n cap b w w1 (k + 1) (w5.setCell ⟨b, k, none⟩ (.int .i64 v)) := by
  have hbel : Below w1.heap.size w5 (w5.setCell ⟨b, k, none⟩ (.int .i64 v)) := (Below.refl _ _).setCell hb _
  exact ⟨_, p', small_set hs hv, hg.set k v, hr.below hbel (by omega), hp, grown_below hn hbel hw, fun j hj hne => (hbel.block j hj).trans (hk j hj hne)⟩

set_option maxHeartbeats 2000000 in
theorem twin_any (R p most : Nat) (w : World) (hr : Rd w R p) (hp : p ≤ 1000000) (hm : most ≤ 2000) :
    Calls Try.prog 46 #[.pointer (some ⟨R, 0, none⟩), .int .i64 most] w (TwinPost R most w) := by
  have HR0 := Lib.hid hr
  have hRw := hr.lt
  clear hr
  go_enter Try.func46, Try.ntmps46
  go_wp2_with fail
  refine (bits_any R p most 12 w HR0.out (by omega) hm (by omega) (by omega)).mono ?_
  rintro e w1 ⟨xs, ad, n, cap, p1, rfl, hn, hsm, hgr, hrd, hp1, hgn⟩
  have HG := Lib.hid hgr
  have HS := Lib.hid hsm
  have HR := Lib.hid hrd
  have HN := Lib.hid hgn
  have hsz1 : w.heap.size ≤ w1.heap.size := hgn.size
  clear hgr hsm hrd hgn
  have hI := Lib.hid (fun o : Obj => (HG.out.alloc o).ints)
  go_wp2_with (at_builtin; refine wpList_appendS (.tmp 12) (.tmp 13) w1.heap.size (some ⟨w1.heap.size, 0, none⟩) 0 0 [] xs ad n cap _ rfl rfl rfl rfl (Grow.lit0 _ _ _ _ (Nat.le_refl _)) (hI.out _) HG.out.len (by omega) (by simp) ?_; intro a2 cap2 w2 hg2 hb2 hnn; have HG2 := Lib.hid hg2; have HB2 := Lib.hid hb2; have HNn := Lib.hid hnn; clear hg2 hb2 hnn)
  obtain ⟨b, rfl, hbb⟩ := HG2.out.addr0 (by rcases HNn.out with h | h; exact h; cases h)
  have HG3 : Hid (Grow .i64 3 w2 w1.heap.size (some ⟨b, 0, none⟩) n cap2 xs) := by
    have := HG2.out
    rw [Nat.zero_add] at this
    exact this
  have HK2 : Hid (∀ j, j < w1.heap.size → w2.heap[j]? = w1.heap[j]?) := fun j hj => (HB2.out.block j hj).trans (Below.heap_alloc _ _ _ hj)
  have HR2 := Lib.hid ((HR.out.alloc _).below HB2.out (by omega))
  have HN2 := Lib.hid (grown_below (grown_alloc HN.out _) HB2.out hsz1)
  clear HG2 HNn hI HB2
  try simp only [Nat.zero_add]
  go_wp2
  go_loopw [8] (fun i wr => ∃ k : Nat, k ≤ n ∧ i = .int .i64 k ∧ TwinRel R p most n cap2 b w w1 k wr) (fun i _ => n - (intOf i).toNat)
  case atStart => exact ⟨0, Nat.zero_le _, rfl, xs, p1, HS.out, HG3.out, HR2.out, by omega, HN2.out, fun j hj _ => HK2.out j hj⟩
  case round =>
    obtain ⟨k, hk, rfl, ys, p', hsm, hgr, hrd, hp', hgn, hkp⟩ := hrel
    have HG4 := Lib.hid hgr
    have HS4 := Lib.hid hsm
    have HR4 := Lib.hid hrd
    have HN4 := Lib.hid hgn
    have HK4 := Lib.hid hkp
    have hsz4 : w.heap.size ≤ wr.heap.size := hgn.size
    clear hgr hsm hrd hgn hkp
    by_cases hlt : k < n
    · go_wp2_with fail
      refine (pick_any R p' 4 wr HR4.out (by omega) (by omega) (by omega)).mono ?_
      rintro e w4 ⟨v4, ⟨hv4, hv4'⟩, rfl, r4, g4⟩
      have R5 := Lib.hid r4
      have N5 := Lib.hid (grown_trans HN4.out g4)
      have G5 := Lib.hid (HG4.out.grownR g4 (by omega))
      have K5 : Hid (∀ j, j < w1.heap.size → j ≠ R → w4.heap[j]? = w1.heap[j]?) := fun j hj hne => (g4.block j (twin_lt HG4.out hlt hj hbb) (fun e => hne (by injection e))).trans (HK4.out j hj hne)
      clear r4 g4
      by_cases hz : v4 = 0
      · have hzb : (v4 == 0) = true := by simp [hz]
        clear hz
        go_wp2_with fail
        refine (pick_any R (p' + 1) 2 w4 R5.out (by omega) (by omega) (by omega)).mono ?_
        rintro e w5 ⟨v5, ⟨hv5, hv5'⟩, rfl, r5, g5⟩
        have G6 := Lib.hid (G5.out.grownR g5 (by omega))
        have N6 := Lib.hid (grown_trans N5.out g5)
        have K6 : Hid (∀ j, j < w1.heap.size → j ≠ R → w5.heap[j]? = w1.heap[j]?) := fun j hj hne => (g5.block j (twin_lt G5.out hlt hj hbb) (fun e => hne (by injection e))).trans (K5.out j hj hne)
        have R6 := Lib.hid r5
        clear r5 g5
        obtain ⟨hc, hf⟩ := grow_cell G6.out hlt
        obtain ⟨u, hc⟩ := hc
        have HRel : Hid (TwinRel R p most n cap2 b w w1 (k + 1) (w5.setCell ⟨b, k, none⟩ (.int .i64 v5))) := twin_step HS4.out G6.out R6.out (by omega) N6.out K6.out hRw hsz1 hbb ⟨by omega, by omega⟩
        go_wp2
        go_roundw
        case rel => exact ⟨k + 1, by omega, by go_num, HRel.out⟩
        case measure => simp [intOf]; omega
      · have hzb : (v4 == 0) = false := by simp [hz]
        clear hz
        go_wp2
        go_roundw
        case rel => exact ⟨k + 1, by omega, by go_num, ys, p' + 1, HS4.out, G5.out, R5.out, by omega, N5.out, K5.out⟩
        case measure => simp [intOf]; omega
    · go_wp2_with fail
      refine (odd_any R p' 9 wr HR4.out (by omega) (by omega) (by omega)).mono ?_
      rintro e w4 ⟨b4, rfl, r4, g4⟩
      have R5 := Lib.hid r4
      have N5 := Lib.hid (grown_trans HN4.out g4)
      have G5 := Lib.hid (HG4.out.grownR g4 (by omega))
      have hsw : w1.heap.size ≤ wr.heap.size := twin_size HG4.out hbb
      have K5 : Hid (∀ j, j < w1.heap.size → j ≠ R → w4.heap[j]? = w1.heap[j]?) := fun j hj hne => (g4.block j (by omega) (fun e => hne (by injection e))).trans (HK4.out j hj hne)
      have hs4 : w1.heap.size ≤ w4.heap.size := by have := g4.size; omega
      clear r4 g4
      have hl1 := HG.out.len
      have hl2 := HG4.out.len
      have HL1 := Lib.hid hl1
      have HL2 := Lib.hid hl2
      clear hl1 hl2
      cases b4
      · go_wp2
        go_ret2
        refine ⟨xs, ys, some ad, some ⟨b, 0, none⟩, cap, cap2, ?_, by rw [HL1.out]; exact hn, by rw [HL2.out]; exact hn, HS.out, HS4.out, ints_other HG.out hRw K5.out hs4, G5.out.ints, N5.out⟩
        rw [HL1.out, HL2.out]; rfl
      · go_wp2_with fail
        refine (bits_any R (p' + 1) most 12 w4 R5.out (by omega) hm (by omega) (by omega)).mono ?_
        rintro e w6 ⟨zs, ad6, n6, cap6, p6, rfl, hn6, hsm6, hgr6, hrd6, hp6, hgn6⟩
        have N6 := Lib.hid (grown_trans N5.out hgn6)
        have K6 : Hid (∀ j, j < w1.heap.size → j ≠ R → w6.heap[j]? = w1.heap[j]?) := fun j hj hne => (hgn6.block j (by omega) (fun e => hne (by injection e))).trans (K5.out j hj hne)
        have hs6 : w1.heap.size ≤ w6.heap.size := by have := hgn6.size; omega
        have G6 := Lib.hid hgr6
        have S6 := Lib.hid hsm6
        have HL6 := Lib.hid hgr6.len
        clear hgr6 hsm6 hrd6 hgn6
        go_wp2
        go_ret2
        refine ⟨xs, zs, some ad, some ad6, cap, cap6, ?_, by rw [HL1.out]; exact hn, by rw [HL6.out]; exact hn6, HS.out, S6.out, ints_other HG.out hRw K6.out hs6, G6.out.ints, N6.out⟩
        rw [HL1.out, HL6.out]; rfl
end Go.Proofs.Ytamfjmfffpdcfaa
