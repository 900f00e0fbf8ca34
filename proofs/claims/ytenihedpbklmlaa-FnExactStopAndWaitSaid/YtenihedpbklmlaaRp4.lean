/-
  The rounds of sending, for each of the three senders: what sendRounds answers and leaves. Conditions: the sender lies in memory of its own; a list of losses below it.
-/
import Derived.Test.YtenihedpbklmlaaRp3
import Derived.Test.YtenihedpbklmlaaTrTwo
namespace Go.Proofs.Ytenihedpbklmlaa
open Go.RowKit

def lenS : Value → Nat
  | .slice _ n _ => n
  | _ => 0
/-- One number appended to a list of the call's own: it stays in its block, or lies in a new one; no other block changes. -/
def App1 (base : Nat) (A : Option Addr) (n : Nat) (xs : List Int) (v : Int) (w : World) (a' : Option Addr) (cap' : Nat) (w' : World) : Prop :=
  Grow .i64 3 w' base a' (n + 1) cap' (xs ++ [v]) ∧ Below base w w' ∧ (∀ j, j < w.heap.size → A ≠ some ⟨j, 0, none⟩ → w'.heap[j]? = w.heap[j]?) ∧ (a' = A ∨ ∃ g, w.heap.size ≤ g ∧ a' = some ⟨g, 0, none⟩)
section
variable {w : World} {ops : Array Oper} {rest : List Oper} {o : Oper} {a : Act} {Q : Exit → Act → World → Prop}
set_option maxRecDepth 10000 in
theorem run_app1k (w : World) (ty : TypeId) (base : Nat) (A : Option Addr) (n cap : Nat) (xs : List Int) (ad : Addr) (v : Int)
    (hg : Grow .i64 3 w base A n cap xs) (hc : w.cell? ad = some (.int .i64 v)) (hn : n < 1099511627776) (hb : base ≤ w.heap.size) :
    ∃ a' cap' w', (Builtin.append_ #[23, 23] ty #[.slice A n cap, .slice (some ad) 1 1]).run Try.prog w = .ok (.slice a' (n + 1) cap') w' ∧ App1 base A n xs v w a' cap' w' := by
  by_cases hA : A = none
  · subst hA
    have hx : xs = [] ∧ n = 0 ∧ cap = 0 := by
      have hl := hg.len
      rcases hg.2 with ⟨e, h0⟩ | ⟨g, c, cur, e, _⟩
      · injection e with _ _ e3
        subst h0
        exact ⟨List.eq_nil_of_length_eq_zero hl, rfl, e3⟩
      · injection e with e1; cases e1
    obtain ⟨rfl, rfl, rfl⟩ := hx
    have hadd : ad.spot = none := World.cell?_spot hc
    obtain ⟨bb, oo, sp⟩ := ad
    simp only at hadd
    subst hadd
    have hlt : bb < w.heap.size := by
      rcases Nat.lt_or_ge bb w.heap.size with h | h
      · exact h
      · simp [World.cell?, Array.getElem?_eq_none h] at hc
    obtain ⟨v', w', hr, a', cap', rfl, h1, h2, h3⟩ := run_appendA w ty w.heap.size none (some ⟨bb, oo, none⟩) 0 0 1 1 w.heap.size [] [v] (Grow.nil _ _ _ _) (fun _ => ⟨bb, oo, rfl, hlt, fun i hi => by
      match i, hi with
      | 0, _ => exact hc⟩) rfl (by omega) (Nat.le_refl _)
    simp only [Nat.zero_add, List.nil_append] at hr h1
    obtain ⟨g, e, hg1, hg2⟩ := (show ∃ g, a' = some ⟨g, 0, none⟩ ∧ w.heap.size ≤ g ∧ g < w'.heap.size by
      obtain ⟨ad, e⟩ := Grow.addr (n := 0) h1
      exact Grow.addr1 h1 (by rw [e]; simp))
    exact ⟨a', cap', w', hr, h1.base_le hb, h2.mono hb, fun j hj _ => h2.block j hj, .inr ⟨g, hg1, e⟩⟩
  · obtain ⟨g, rfl, hg1, hg2⟩ := Grow.addr1 hg hA
    obtain ⟨g', cap', w', hr, h1, h2, h3⟩ := run_append_twoT w ty base g n cap xs ad v hg hc hn hb
    refine ⟨_, cap', w', hr, h2, (Below.refl _ _).grown h3 hb (fun k e => by injection e with e; omega), fun j hj hne => h3.block j hj (fun e => hne (by injection e with e; rw [e])), ?_⟩
    rcases h1 with rfl | h1
    · exact .inl rfl
    · exact .inr ⟨g', h1, rfl⟩
set_option maxRecDepth 10000 in
theorem wpList_app1k (s x : Operand) (base : Nat) (A : Option Addr) (n cap : Nat) (xs : List Int) (ad : Addr) (v : Int)
    (hgd : o.guard = none) (ho : o.op = .call { callee := .builtin .append, args := #[s, x], argTypes := #[23, 23] }) (hs : a.eval s = .slice A n cap) (hx : a.eval x = .slice (some ad) 1 1)
    (hg : Grow .i64 3 w base A n cap xs) (hc : w.cell? ad = some (.int .i64 v)) (hn : n < 1099511627776) (hb : base ≤ w.heap.size)
    (h : ∀ a' cap' w', App1 base A n xs v w a' cap' w' → wpList Try.prog ops Q rest (a.put o.dst (.slice a' (n + 1) cap')) w') : wpList Try.prog ops Q (o :: rest) a w := by
  obtain ⟨a', cap', w', hr, h1⟩ := run_app1k w o.type base A n cap xs ad v hg hc hn hb
  exact Lib.wpList_append_run w hgd s x _ _ ho _ _ hs hx _ _ hr (h a' cap' w' h1)
end
/-- A round's list lies in a block that is not the sent list's. -/
def RndAt (w : World) (B : Nat) (ad ra : Option Addr) (R : List Int) : Prop :=
  R ≠ [] → ∃ r, ra = some ⟨r, 0, none⟩ ∧ r < w.heap.size ∧ B ≤ r ∧ (∀ g, ad = some ⟨g, 0, none⟩ → g ≠ r) ∧ ∀ i, i < R.length → w.cell? ⟨r, i, none⟩ = some (.int .i64 (el R i))
set_option maxRecDepth 10000 in
theorem rnd_of {w0 w1 : World} {B m cap : Nat} {ad ra : Option Addr} {L R : List Int} (hg : Grow .i64 3 w0 B ad m cap L) (ho : OwnInts .i64 3 w1 w0.heap.size ra R) (hB : B ≤ w0.heap.size) : RndAt w1 B ad ra R := fun hne => by
  obtain ⟨b, c, e, h1, h2, f, h3, h4⟩ := ho hne
  refine ⟨b, e, World.rowIs.lt h3, Nat.le_trans hB h1, fun g eg => ?_, fun i hi => by rw [World.rowIs.cell h3 (by omega), h4 i hi]⟩
  obtain ⟨g2, e2, _, h6⟩ := Grow.addr1 hg (by rw [eg]; simp)
  rw [eg] at e2
  injection e2 with e2
  injection e2 with e2
  omega
theorem keptOut_below {A E B : Nat} {u v w : World} (h : KeptOut A E u v) (hb : Below B v w) (hB : u.heap.size ≤ B) : KeptOut A E u w :=
  ⟨hb.os.trans h.os, hb.tape.trans h.tape, hb.output.trans h.output, Nat.le_trans h.size hb.size, fun j hj hd => (hb.block j (by omega)).trans (h.block j hj hd)⟩
/-- What sendRounds answers and leaves. -/
def SendP {σ : Type} (o : Option (List Int × σ)) (Mf : World → σ → Nat → Prop) (A E : Nat) (W : World) (e : Ending) (w' : World) : Prop :=
  ∃ L b v c, e = .returned (.tuple #[.slice v L.length c, .bool b]) ∧ (L.length ≤ c ∧ c ≤ maxLen) ∧ OwnInts .i64 3 w' W.heap.size v L ∧ KeptOut A E W w' ∧ (b = true ∧ (∃ s, o = some (L, s) ∧ Mf w' s L.length) ∨ b = false ∧ L = [] ∧ o = none)
set_option maxRecDepth 10000 in
theorem own_grow {w : World} {base n cap : Nat} {a : Option Addr} {xs : List Int} (h : Grow .i64 3 w base a n cap xs) : OwnInts .i64 3 w base a xs := fun hne => by
  have hl := h.len
  have hp : 0 < n := by rw [← hl]; exact List.length_pos_iff.2 hne
  obtain ⟨b, f, rfl, h1, _, h3, h4, h5⟩ := h.row hp
  exact ⟨b, cap, rfl, h1, by omega, f, h4, fun i hi => h5 i (by omega)⟩

set_option maxRecDepth 10000 in
theorem mthStNext (b : Nat) (w : World) : (method 227 64 (.pointer (some ⟨b, 0, none⟩)) "loop.example/softwareradio/impl.nextRound").run Try.prog w = .ok (93, .pointer (some ⟨b, 0, none⟩)) w := by kernel_rfl
set_option maxRecDepth 10000 in
theorem mthStArrive (b : Nat) (w : World) : (method 227 64 (.pointer (some ⟨b, 0, none⟩)) "loop.example/softwareradio/impl.arrive").run Try.prog w = .ok (92, .pointer (some ⟨b, 0, none⟩)) w := by kernel_rfl
theorem natSt {W : World} {A n : Nat} {au : Option Addr} {cu : Nat} {un : List Bool} {s s' : StS} {t : Nat} {R : List Int} (h : StM W A n au cu un s t) (_e : s = s') (hR : R = (stR n) s) : R.length ≤ 30 ∧ ∀ j, j < R.length → ∃ k : Nat, el R j = (k : Int) ∧ k < n ∧ (j = 0 ∧ s.k < n) := by
  subst hR
  have hk := h.kn
  by_cases e : s.k = n
  · rw [show stR n s = [] from if_pos e]
    exact ⟨by simp, fun j hj => absurd hj (Nat.not_lt_zero _)⟩
  · rw [show stR n s = [(s.k : Int)] from if_neg e]
    refine ⟨by simp, fun j hj => ?_⟩
    obtain rfl : j = 0 := by simpa using hj
    exact ⟨s.k, rfl, by omega, rfl, by omega⟩

set_option maxRecDepth 100000 in
set_option maxHeartbeats 8000000 in
theorem sendSt_any (W : World) (A n : Nat) (au : Option Addr) (cu : Nat) (un : List Bool) (s0 : StS) (al : Option Addr) (cl : Nat) (ls : List Bool) (h : StM W A n au cu un s0 0) (hl : Bls W A al ls) :
    Calls Try.prog 50 #[.iface 64 (.pointer (some ⟨A + 1, 0, none⟩)), .slice al ls.length cl] W (SendP (rnS (stR n) (stA (bt un)) (bt ls) 301 s0 []) (fun w' s t => StM w' A n au cu un s t) A (A + 2) W) := by
  have H := Lib.hid h
  have hEB : A + 2 ≤ W.heap.size := h.lt
  have HL := Lib.hid hl
  have hmN := mthStNext (A + 1)
  have hmA := mthStArrive (A + 1)
  obtain ⟨O, hO⟩ : ∃ O, O = rnS (stR n) (stA (bt un)) (bt ls) 301 s0 [] := ⟨_, rfl⟩
  have HO := Lib.hid hO.symm
  rw [← hO]
  clear h hl hO
  go_enter Try.func50, Try.ntmps50
  go_wp2_with (go_at_call 93; ((with_reducible refine (stNext_any W A n au cu un s0 0 H.out).mono ?_); rintro e w1 ⟨r1, c1, rfl, _, o1, b1⟩; have R1 := Lib.hid (rnd_of (Grow.nil .i64 3 W W.heap.size) o1 (Nat.le_refl _)); have B1 := Lib.hid b1; clear o1 b1))
  go_loopw [6, 7] (fun S R wr => ∃ (f : Nat) (s : StS) (L : List Int) (m : Nat) (ad : Option Addr) (cap : Nat) (ra : Option Addr) (q rc : Nat), S = .slice ad m cap ∧ R = .slice ra q rc ∧ q = ((stR n) s).length ∧ Grow .i64 3 wr W.heap.size ad m cap L ∧ RndAt wr W.heap.size ad ra ((stR n) s) ∧ StM wr A n au cu un s m ∧ KeptOut A (A + 2) W wr ∧ rnS (stR n) (stA (bt un)) (bt ls) f s L = O ∧ 301 ≤ f + m ∧ m ≤ 330) (fun S _ _ => 400 - lenS S)
  case atStart => exact ⟨301, s0, [], 0, none, 0, r1, _, c1, rfl, rfl, rfl, Grow.nil _ _ _ _, R1.out, H.out.next B1.out hEB, keptOut_below (KeptOut.refl _ _ _) B1.out (Nat.le_refl _), HO.out, by omega, by omega⟩
  case round =>
    obtain ⟨f, s, L, m, ad, cap, ra, q, rc, rfl, rfl, hq, hgr, hrn, hM, hkp, hrun, hf, hm330⟩ := hrel
    have HG := Lib.hid hgr
    have HM := Lib.hid hM
    have HK := Lib.hid hkp
    have HRun := Lib.hid hrun
    have hLm : L.length = m := hgr.len
    have hWs : W.heap.size ≤ wr.heap.size := hkp.size
    obtain ⟨R, hR⟩ : ∃ R, R = (stR n) s := ⟨_, rfl⟩
    have HR := Lib.hid hR
    have HLm := Lib.hid hLm
    rw [← hR] at hq hrn
    clear hgr hM hkp hrun hR hLm R1 B1
    by_cases hq0 : q = 0
    · have hR0 : R = [] := List.eq_nil_of_length_eq_zero (by omega)
      have HE : Hid (O = some (L, s)) := Lib.hid (by rw [← HRun.out]; exact rnS_done (by rw [← HR.out]; exact hR0))
      have hqI : ¬ 0 < (q : Int) := by omega
      clear hrn hq hR0
      go_wp2
      go_ret2
      exact ⟨L, true, ad, cap, by rw [HLm.out]; rfl, by rw [HLm.out]; exact HG.out.room, own_grow HG.out, HK.out, .inl ⟨rfl, s, HE.out, by rw [HLm.out]; exact HM.out⟩⟩
    · have hRne : R ≠ [] := fun e => hq0 (by rw [hq, e]; rfl)
      have hqI : 0 < (q : Int) := by omega
      obtain ⟨r, rfl, hr1, hr2, hr3, hr4⟩ := hrn hRne
      have HR3 := Lib.hid hr3
      have HR4 := Lib.hid hr4
      have HQ := Lib.hid hq
      clear hrn hr3 hr4 hq
      by_cases hm3 : 300 ≤ m
      · have HE : Hid (O = none) := Lib.hid (by rw [← HRun.out]; exact rnS_stop (by rw [← HR.out]; exact hRne) (by rw [HLm.out]; exact hm3))
        have hm3I : (300 : Int) ≤ (m : Int) := by omega
        clear hRne
        go_wp2
        go_ret2
        exact ⟨[], false, none, 0, rfl, ⟨Nat.le_refl _, Nat.zero_le _⟩, fun h => absurd rfl h, HK.out, .inr ⟨rfl, rfl, HE.out⟩⟩
      · obtain ⟨f2, hf2, hrun2⟩ := rnS_step (rd := (stR n)) (ar := (stA (bt un))) (lost := bt ls) (f := f) (s := s) (L := L) (by rw [← HR.out]; exact hRne) (by rw [HLm.out]; exact hm3) (by rw [HLm.out]; exact hf)
        rw [← HR.out] at hf2 hrun2
        have HF2 := Lib.hid hf2
        have HRun2 := Lib.hid (hrun2.symm.trans HRun.out)
        have hm3I : ¬ (300 : Int) ≤ (m : Int) := by omega
        have HNat := Lib.hid (natSt HM.out (show s = s from rfl) HR.out)
        have hq30 : q ≤ 30 := by rw [HQ.out]; exact HNat.out.1
        have HM0 : Hid (StM wr A n au cu un (rdS (stA (bt un)) (bt ls) s m (R.take 0)) m) := Lib.hid (by rw [List.take_zero]; exact HM.out)
        have HG0 : Hid (Grow .i64 3 wr W.heap.size ad m cap (L ++ R.take 0)) := Lib.hid (by rw [List.take_zero, List.append_nil]; exact HG.out)
        clear hf2 hrun2 hRne hf
        go_wp2
        clear hm3I hqI
        generalize wr = w5 at HG0 HM0 HK HR4 hr1 hWs ⊢
        go_loopw [6, 22] (fun S i ws => ∃ (j m2 : Nat) (ad2 : Option Addr) (cap2 : Nat), i = .int .i64 (j : Int) ∧ j ≤ q ∧ m2 = m + j ∧ S = .slice ad2 m2 cap2 ∧ Grow .i64 3 ws W.heap.size ad2 m2 cap2 (L ++ R.take j) ∧ StM ws A n au cu un (rdS (stA (bt un)) (bt ls) s m (R.take j)) m2 ∧ KeptOut A (A + 2) W ws ∧ r < ws.heap.size ∧ ws.heap[r]? = w5.heap[r]? ∧ (∀ g, ad2 = some ⟨g, 0, none⟩ → g ≠ r)) (fun _ i _ => q - (intOf i).toNat)
        case atStart => exact ⟨0, m, ad, cap, rfl, Nat.zero_le _, rfl, rfl, HG0.out, HM0.out, HK.out, hr1, rfl, HR3.out⟩
        case round =>
          obtain ⟨j, m2, ad2, cap2, rfl, hj, hm2, rfl, hg2, hM2, hk2, hrl, hrh, hne⟩ := hrel
          have HG2 := Lib.hid hg2
          have HM2 := Lib.hid hM2
          have HK2 := Lib.hid hk2
          have HRH := Lib.hid hrh
          have HNE := Lib.hid hne
          have HMM := Lib.hid hm2
          have hWs2 : W.heap.size ≤ wr.heap.size := hk2.size
          have hm2b : m2 ≤ 360 := by omega
          by_cases hjq : j < q
          · obtain ⟨k, hk, hkn, hex⟩ := HNat.out.2 j (by rw [← HQ.out]; exact hjq)
            have cj : wr.cell? ⟨r, j, none⟩ = some (.int .i64 (k : Int)) := by
              rw [World.cell?_of_block (a := ⟨r, j, none⟩) hrh, HR4.out j (by rw [← HQ.out]; exact hjq), hk]
            have hjI : (j : Int) < (q : Int) := by omega
            have HTk := Lib.hid (show R.take (j + 1) = R.take j ++ [(k : Int)] by rw [take_el (by rw [← HQ.out]; exact hjq), hk])
            have HTl := Lib.hid (show (R.take j).length = j by rw [List.length_take, ← HQ.out]; omega)
            have HAr := Lib.hid (stArrive_any wr A n au cu un (rdS (stA (bt un)) (bt ls) s m (R.take j)) m2 k hM2 hkn (by rw [hex.1, List.take_zero]; exact hex.2) (by omega))
            have hm2w : m2 < 1099511627776 := by omega
            clear hm2 hg2 hM2 hk2 hrh hne hk hex
            cases hbt : bt ls m2
            · have HIs := Lib.hid (fun W' h => isMarked_is al cl A ls m2 false W' h hbt)
              have HSn : Hid (rdS (stA (bt un)) (bt ls) s m (R.take (j + 1)) = (stA (bt un)) (rdS (stA (bt un)) (bt ls) s m (R.take j)) k m2) := Lib.hid (by
                rw [HTk.out, rdS_snoc, HTl.out, ← HMM.out, hbt, Int.toNat_natCast]; rfl)
              have HLs := Lib.hid (show Bls wr A al ls from HL.out.keep fun p hp => World.cell?_of_block (HK2.out.block _ (by omega) (.inl hp)))
              clear hbt
              go_wp2_with (first
                | (at_builtin; refine wpList_app1k (.tmp 36) (.tmp 38) W.heap.size ad2 m2 cap2 (L ++ R.take j) ⟨w7.heap.size, 0, none⟩ (k : Int) rfl rfl rfl rfl (G7.out.alloc _) (by simp) hm2w (by simp; omega) ?_; intro a9 cap9 w9 h9; have H9 := Lib.hid h9; clear h9)
                | (go_at_call 92; ((with_reducible refine HAr.out.mono ?_); rintro e w7 ⟨rfl, m7, k7⟩; have M7 := Lib.hid m7; have K7 := Lib.hid (keptOut_trans HK2.out k7); have G7 := Lib.hid (HG2.out.keep fun b h1 h2 => k7.block b h2 (.inr (by omega))); have R7 := Lib.hid ((k7.block r hrl (.inr (by omega))).trans HRH.out); have hs7 : wr.heap.size ≤ w7.heap.size := k7.size; clear m7 k7))
                | (go_at_call 63; ((with_reducible refine (HIs.out _ HLs.out).mono ?_); rintro e w6 ⟨rfl, rfl⟩)))
              have hB9 : Below W.heap.size w7 w9 := ((Below.refl _ _).alloc (by omega) _).trans H9.out.2.1
              have hR9 : w9.heap[r]? = w5.heap[r]? := ((H9.out.2.2.1 r (by simp; omega) (fun e => HNE.out r e rfl)).trans (Below.heap_alloc w7 _ r (by omega))).trans R7.out
              have hN9 : ∀ g, a9 = some ⟨g, 0, none⟩ → g ≠ r := fun g eg => by
                rcases H9.out.2.2.2 with e | ⟨g2, hg2, e⟩
                · exact HNE.out g (by rw [← e, eg])
                · rw [eg] at e
                  injection e with e
                  injection e with e
                  simp at hg2
                  omega
              have hs9 : r < w9.heap.size := Nat.lt_of_lt_of_le (by omega) hB9.size
              have HEnd := Lib.hid (And.intro hB9 (And.intro hR9 (And.intro hN9 hs9)))
              clear hB9 hR9 hN9 hs9
              go_roundw
              case rel => exact ⟨j + 1, m2 + 1, a9, cap9, by go_num, by omega, by have := HMM.out; omega, rfl, by rw [HTk.out, ← List.append_assoc]; exact H9.out.1, by rw [HSn.out]; exact M7.out.next HEnd.out.1 hEB, keptOut_below K7.out HEnd.out.1 (Nat.le_refl _), HEnd.out.2.2.2, HEnd.out.2.1, HEnd.out.2.2.1⟩
              case measure => simp [intOf]; omega
            · have HIs := Lib.hid (fun W' h => isMarked_is al cl A ls m2 true W' h hbt)
              have HSn : Hid (rdS (stA (bt un)) (bt ls) s m (R.take (j + 1)) = rdS (stA (bt un)) (bt ls) s m (R.take j)) := Lib.hid (by
                rw [HTk.out, rdS_snoc, HTl.out, ← HMM.out, hbt]; rfl)
              have HLs := Lib.hid (show Bls wr A al ls from HL.out.keep fun p hp => World.cell?_of_block (HK2.out.block _ (by omega) (.inl hp)))
              clear hbt
              go_wp2_with (first
                | (at_builtin; refine wpList_app1k (.tmp 36) (.tmp 38) W.heap.size ad2 m2 cap2 (L ++ R.take j) ⟨wr.heap.size, 0, none⟩ (k : Int) rfl rfl rfl rfl (HG2.out.alloc _) (by simp) hm2w (by simp; omega) ?_; intro a9 cap9 w9 h9; have H9 := Lib.hid h9; clear h9)
                | (go_at_call 63; ((with_reducible refine (HIs.out _ HLs.out).mono ?_); rintro e w6 ⟨rfl, rfl⟩)))
              have hB9 : Below W.heap.size wr w9 := ((Below.refl _ _).alloc (by omega) _).trans H9.out.2.1
              have hR9 : w9.heap[r]? = w5.heap[r]? := ((H9.out.2.2.1 r (by simp; omega) (fun e => HNE.out r e rfl)).trans (Below.heap_alloc wr _ r (by omega))).trans HRH.out
              have hN9 : ∀ g, a9 = some ⟨g, 0, none⟩ → g ≠ r := fun g eg => by
                rcases H9.out.2.2.2 with e | ⟨g2, hg2, e⟩
                · exact HNE.out g (by rw [← e, eg])
                · rw [eg] at e
                  injection e with e
                  injection e with e
                  simp at hg2
                  omega
              have hs9 : r < w9.heap.size := Nat.lt_of_lt_of_le (by omega) hB9.size
              have HEnd := Lib.hid (And.intro hB9 (And.intro hR9 (And.intro hN9 hs9)))
              clear hB9 hR9 hN9 hs9
              go_roundw
              case rel => exact ⟨j + 1, m2 + 1, a9, cap9, by go_num, by omega, by have := HMM.out; omega, rfl, by rw [HTk.out, ← List.append_assoc]; exact H9.out.1, by rw [HSn.out]; exact (HM2.out.idle).next HEnd.out.1 hEB, keptOut_below HK2.out HEnd.out.1 (Nat.le_refl _), HEnd.out.2.2.2, HEnd.out.2.1, HEnd.out.2.2.1⟩
              case measure => simp [intOf]; omega
          · obtain rfl : q = j := by omega
            have HT : Hid (R.take q = R) := Lib.hid (by rw [HQ.out]; exact List.take_length)
            rw [HT.out] at HG2 HM2
            have hLL : (L ++ R).length = m2 := by rw [List.length_append, HLm.out, ← HQ.out, HMM.out]
            have HF3 := Lib.hid (show 301 ≤ f2 + m2 by have := HF2.out; omega)
            have HRun3 := Lib.hid (show rnS (stR n) (stA (bt un)) (bt ls) f2 (rdS (stA (bt un)) (bt ls) s m R) (L ++ R) = O by rw [← HLm.out]; exact HRun2.out)
            have hpos : 0 < q := by omega
            clear hg2 hM2 hk2 hrh hne hLL hm2
            go_wp2_with (go_at_call 93; ((with_reducible refine (stNext_any wr A n au cu un _ m2 HM2.out).mono ?_); rintro e w8 ⟨r8, c8, rfl, _, o8, b8⟩; have R8 := Lib.hid (rnd_of HG2.out o8 hWs2); have B8 := Lib.hid b8; clear o8 b8))
            go_roundw
            case rel => exact ⟨f2, _, L ++ R, m2, ad2, cap2, r8, _, c8, rfl, rfl, rfl, HG2.out.below B8.out, R8.out, HM2.out.next (B8.out.mono hWs2) hEB, keptOut_below HK2.out B8.out hWs2, HRun3.out, HF3.out, by have := HMM.out; omega⟩
            case measure => have := HMM.out; simp [lenS]; omega

set_option maxRecDepth 10000 in
theorem mthBkNext (b : Nat) (w : World) : (method 227 71 (.pointer (some ⟨b, 0, none⟩)) "loop.example/softwareradio/impl.nextRound").run Try.prog w = .ok (95, .pointer (some ⟨b, 0, none⟩)) w := by kernel_rfl
set_option maxRecDepth 10000 in
theorem mthBkArrive (b : Nat) (w : World) : (method 227 71 (.pointer (some ⟨b, 0, none⟩)) "loop.example/softwareradio/impl.arrive").run Try.prog w = .ok (94, .pointer (some ⟨b, 0, none⟩)) w := by kernel_rfl
theorem natBk {W : World} {A n : Nat} {v : Nat} {s s' : Nat} {R : List Int} (h : BkM W A n v s) (_e : s = s') (hR : R = (bkR n v) s) : R.length ≤ 30 ∧ ∀ j, j < R.length → ∃ k : Nat, el R j = (k : Int) ∧ k < n ∧ (True) := by
  subst hR
  have hv := h.v8
  have hs := h.sn
  have h30 := h.n30
  have hg : s + gbLen n v s ≤ n := by have := gbLen_le n v s; omega
  unfold bkR
  rw [up_len]
  exact ⟨by omega, fun j hj => ⟨s + j, up_el hj, by omega, trivial⟩⟩

set_option maxRecDepth 100000 in
set_option maxHeartbeats 8000000 in
theorem sendBk_any (W : World) (A n : Nat) (v : Nat) (s0 : Nat) (al : Option Addr) (cl : Nat) (ls : List Bool) (h : BkM W A n v s0) (hl : Bls W A al ls) :
    Calls Try.prog 50 #[.iface 71 (.pointer (some ⟨A, 0, none⟩)), .slice al ls.length cl] W (SendP (rnS (bkR n v) bkA (bt ls) 301 s0 []) (fun w' s _ => BkM w' A n v s) A (A + 1) W) := by
  have H := Lib.hid h
  have hEB : A + 1 ≤ W.heap.size := h.lt
  have HL := Lib.hid hl
  have hmN := mthBkNext (A)
  have hmA := mthBkArrive (A)
  obtain ⟨O, hO⟩ : ∃ O, O = rnS (bkR n v) bkA (bt ls) 301 s0 [] := ⟨_, rfl⟩
  have HO := Lib.hid hO.symm
  rw [← hO]
  clear h hl hO
  go_enter Try.func50, Try.ntmps50
  go_wp2_with (go_at_call 95; ((with_reducible refine (bkNext_any W A n v s0 H.out).mono ?_); rintro e w1 ⟨r1, c1, rfl, _, o1, b1⟩; have R1 := Lib.hid (rnd_of (Grow.nil .i64 3 W W.heap.size) o1 (Nat.le_refl _)); have B1 := Lib.hid b1; clear o1 b1))
  go_loopw [6, 7] (fun S R wr => ∃ (f : Nat) (s : Nat) (L : List Int) (m : Nat) (ad : Option Addr) (cap : Nat) (ra : Option Addr) (q rc : Nat), S = .slice ad m cap ∧ R = .slice ra q rc ∧ q = ((bkR n v) s).length ∧ Grow .i64 3 wr W.heap.size ad m cap L ∧ RndAt wr W.heap.size ad ra ((bkR n v) s) ∧ BkM wr A n v s ∧ KeptOut A (A + 1) W wr ∧ rnS (bkR n v) bkA (bt ls) f s L = O ∧ 301 ≤ f + m ∧ m ≤ 330) (fun S _ _ => 400 - lenS S)
  case atStart => exact ⟨301, s0, [], 0, none, 0, r1, _, c1, rfl, rfl, rfl, Grow.nil _ _ _ _, R1.out, H.out.next B1.out hEB, keptOut_below (KeptOut.refl _ _ _) B1.out (Nat.le_refl _), HO.out, by omega, by omega⟩
  case round =>
    obtain ⟨f, s, L, m, ad, cap, ra, q, rc, rfl, rfl, hq, hgr, hrn, hM, hkp, hrun, hf, hm330⟩ := hrel
    have HG := Lib.hid hgr
    have HM := Lib.hid hM
    have HK := Lib.hid hkp
    have HRun := Lib.hid hrun
    have hLm : L.length = m := hgr.len
    have hWs : W.heap.size ≤ wr.heap.size := hkp.size
    obtain ⟨R, hR⟩ : ∃ R, R = (bkR n v) s := ⟨_, rfl⟩
    have HR := Lib.hid hR
    have HLm := Lib.hid hLm
    rw [← hR] at hq hrn
    clear hgr hM hkp hrun hR hLm R1 B1
    by_cases hq0 : q = 0
    · have hR0 : R = [] := List.eq_nil_of_length_eq_zero (by omega)
      have HE : Hid (O = some (L, s)) := Lib.hid (by rw [← HRun.out]; exact rnS_done (by rw [← HR.out]; exact hR0))
      have hqI : ¬ 0 < (q : Int) := by omega
      clear hrn hq hR0
      go_wp2
      go_ret2
      exact ⟨L, true, ad, cap, by rw [HLm.out]; rfl, by rw [HLm.out]; exact HG.out.room, own_grow HG.out, HK.out, .inl ⟨rfl, s, HE.out, by rw [HLm.out]; exact HM.out⟩⟩
    · have hRne : R ≠ [] := fun e => hq0 (by rw [hq, e]; rfl)
      have hqI : 0 < (q : Int) := by omega
      obtain ⟨r, rfl, hr1, hr2, hr3, hr4⟩ := hrn hRne
      have HR3 := Lib.hid hr3
      have HR4 := Lib.hid hr4
      have HQ := Lib.hid hq
      clear hrn hr3 hr4 hq
      by_cases hm3 : 300 ≤ m
      · have HE : Hid (O = none) := Lib.hid (by rw [← HRun.out]; exact rnS_stop (by rw [← HR.out]; exact hRne) (by rw [HLm.out]; exact hm3))
        have hm3I : (300 : Int) ≤ (m : Int) := by omega
        clear hRne
        go_wp2
        go_ret2
        exact ⟨[], false, none, 0, rfl, ⟨Nat.le_refl _, Nat.zero_le _⟩, fun h => absurd rfl h, HK.out, .inr ⟨rfl, rfl, HE.out⟩⟩
      · obtain ⟨f2, hf2, hrun2⟩ := rnS_step (rd := (bkR n v)) (ar := bkA) (lost := bt ls) (f := f) (s := s) (L := L) (by rw [← HR.out]; exact hRne) (by rw [HLm.out]; exact hm3) (by rw [HLm.out]; exact hf)
        rw [← HR.out] at hf2 hrun2
        have HF2 := Lib.hid hf2
        have HRun2 := Lib.hid (hrun2.symm.trans HRun.out)
        have hm3I : ¬ (300 : Int) ≤ (m : Int) := by omega
        have HNat := Lib.hid (natBk HM.out (show s = s from rfl) HR.out)
        have hq30 : q ≤ 30 := by rw [HQ.out]; exact HNat.out.1
        have HM0 : Hid (BkM wr A n v (rdS bkA (bt ls) s m (R.take 0))) := Lib.hid (by rw [List.take_zero]; exact HM.out)
        have HG0 : Hid (Grow .i64 3 wr W.heap.size ad m cap (L ++ R.take 0)) := Lib.hid (by rw [List.take_zero, List.append_nil]; exact HG.out)
        clear hf2 hrun2 hRne hf
        go_wp2
        clear hm3I hqI
        generalize wr = w5 at HG0 HM0 HK HR4 hr1 hWs ⊢
        go_loopw [6, 22] (fun S i ws => ∃ (j m2 : Nat) (ad2 : Option Addr) (cap2 : Nat), i = .int .i64 (j : Int) ∧ j ≤ q ∧ m2 = m + j ∧ S = .slice ad2 m2 cap2 ∧ Grow .i64 3 ws W.heap.size ad2 m2 cap2 (L ++ R.take j) ∧ BkM ws A n v (rdS bkA (bt ls) s m (R.take j)) ∧ KeptOut A (A + 1) W ws ∧ r < ws.heap.size ∧ ws.heap[r]? = w5.heap[r]? ∧ (∀ g, ad2 = some ⟨g, 0, none⟩ → g ≠ r)) (fun _ i _ => q - (intOf i).toNat)
        case atStart => exact ⟨0, m, ad, cap, rfl, Nat.zero_le _, rfl, rfl, HG0.out, HM0.out, HK.out, hr1, rfl, HR3.out⟩
        case round =>
          obtain ⟨j, m2, ad2, cap2, rfl, hj, hm2, rfl, hg2, hM2, hk2, hrl, hrh, hne⟩ := hrel
          have HG2 := Lib.hid hg2
          have HM2 := Lib.hid hM2
          have HK2 := Lib.hid hk2
          have HRH := Lib.hid hrh
          have HNE := Lib.hid hne
          have HMM := Lib.hid hm2
          have hWs2 : W.heap.size ≤ wr.heap.size := hk2.size
          have hm2b : m2 ≤ 360 := by omega
          by_cases hjq : j < q
          · obtain ⟨k, hk, hkn, hex⟩ := HNat.out.2 j (by rw [← HQ.out]; exact hjq)
            have cj : wr.cell? ⟨r, j, none⟩ = some (.int .i64 (k : Int)) := by
              rw [World.cell?_of_block (a := ⟨r, j, none⟩) hrh, HR4.out j (by rw [← HQ.out]; exact hjq), hk]
            have hjI : (j : Int) < (q : Int) := by omega
            have HTk := Lib.hid (show R.take (j + 1) = R.take j ++ [(k : Int)] by rw [take_el (by rw [← HQ.out]; exact hjq), hk])
            have HTl := Lib.hid (show (R.take j).length = j by rw [List.length_take, ← HQ.out]; omega)
            have HAr := Lib.hid (bkArrive_any wr A n v (rdS bkA (bt ls) s m (R.take j)) k (m2 : Int) hM2 hkn)
            have hm2w : m2 < 1099511627776 := by omega
            clear hm2 hg2 hM2 hk2 hrh hne hk hex
            cases hbt : bt ls m2
            · have HIs := Lib.hid (fun W' h => isMarked_is al cl A ls m2 false W' h hbt)
              have HSn : Hid (rdS bkA (bt ls) s m (R.take (j + 1)) = bkA (rdS bkA (bt ls) s m (R.take j)) k m2) := Lib.hid (by
                rw [HTk.out, rdS_snoc, HTl.out, ← HMM.out, hbt, Int.toNat_natCast]; rfl)
              have HLs := Lib.hid (show Bls wr A al ls from HL.out.keep fun p hp => World.cell?_of_block (HK2.out.block _ (by omega) (.inl hp)))
              clear hbt
              go_wp2_with (first
                | (at_builtin; refine wpList_app1k (.tmp 36) (.tmp 38) W.heap.size ad2 m2 cap2 (L ++ R.take j) ⟨w7.heap.size, 0, none⟩ (k : Int) rfl rfl rfl rfl (G7.out.alloc _) (by simp) hm2w (by simp; omega) ?_; intro a9 cap9 w9 h9; have H9 := Lib.hid h9; clear h9)
                | (go_at_call 94; ((with_reducible refine HAr.out.mono ?_); rintro e w7 ⟨rfl, m7, k7⟩; have M7 := Lib.hid m7; have K7 := Lib.hid (keptOut_trans HK2.out k7); have G7 := Lib.hid (HG2.out.keep fun b h1 h2 => k7.block b h2 (.inr (by omega))); have R7 := Lib.hid ((k7.block r hrl (.inr (by omega))).trans HRH.out); have hs7 : wr.heap.size ≤ w7.heap.size := k7.size; clear m7 k7))
                | (go_at_call 63; ((with_reducible refine (HIs.out _ HLs.out).mono ?_); rintro e w6 ⟨rfl, rfl⟩)))
              have hB9 : Below W.heap.size w7 w9 := ((Below.refl _ _).alloc (by omega) _).trans H9.out.2.1
              have hR9 : w9.heap[r]? = w5.heap[r]? := ((H9.out.2.2.1 r (by simp; omega) (fun e => HNE.out r e rfl)).trans (Below.heap_alloc w7 _ r (by omega))).trans R7.out
              have hN9 : ∀ g, a9 = some ⟨g, 0, none⟩ → g ≠ r := fun g eg => by
                rcases H9.out.2.2.2 with e | ⟨g2, hg2, e⟩
                · exact HNE.out g (by rw [← e, eg])
                · rw [eg] at e
                  injection e with e
                  injection e with e
                  simp at hg2
                  omega
              have hs9 : r < w9.heap.size := Nat.lt_of_lt_of_le (by omega) hB9.size
              have HEnd := Lib.hid (And.intro hB9 (And.intro hR9 (And.intro hN9 hs9)))
              clear hB9 hR9 hN9 hs9
              go_roundw
              case rel => exact ⟨j + 1, m2 + 1, a9, cap9, by go_num, by omega, by have := HMM.out; omega, rfl, by rw [HTk.out, ← List.append_assoc]; exact H9.out.1, by rw [HSn.out]; exact M7.out.next HEnd.out.1 hEB, keptOut_below K7.out HEnd.out.1 (Nat.le_refl _), HEnd.out.2.2.2, HEnd.out.2.1, HEnd.out.2.2.1⟩
              case measure => simp [intOf]; omega
            · have HIs := Lib.hid (fun W' h => isMarked_is al cl A ls m2 true W' h hbt)
              have HSn : Hid (rdS bkA (bt ls) s m (R.take (j + 1)) = rdS bkA (bt ls) s m (R.take j)) := Lib.hid (by
                rw [HTk.out, rdS_snoc, HTl.out, ← HMM.out, hbt]; rfl)
              have HLs := Lib.hid (show Bls wr A al ls from HL.out.keep fun p hp => World.cell?_of_block (HK2.out.block _ (by omega) (.inl hp)))
              clear hbt
              go_wp2_with (first
                | (at_builtin; refine wpList_app1k (.tmp 36) (.tmp 38) W.heap.size ad2 m2 cap2 (L ++ R.take j) ⟨wr.heap.size, 0, none⟩ (k : Int) rfl rfl rfl rfl (HG2.out.alloc _) (by simp) hm2w (by simp; omega) ?_; intro a9 cap9 w9 h9; have H9 := Lib.hid h9; clear h9)
                | (go_at_call 63; ((with_reducible refine (HIs.out _ HLs.out).mono ?_); rintro e w6 ⟨rfl, rfl⟩)))
              have hB9 : Below W.heap.size wr w9 := ((Below.refl _ _).alloc (by omega) _).trans H9.out.2.1
              have hR9 : w9.heap[r]? = w5.heap[r]? := ((H9.out.2.2.1 r (by simp; omega) (fun e => HNE.out r e rfl)).trans (Below.heap_alloc wr _ r (by omega))).trans HRH.out
              have hN9 : ∀ g, a9 = some ⟨g, 0, none⟩ → g ≠ r := fun g eg => by
                rcases H9.out.2.2.2 with e | ⟨g2, hg2, e⟩
                · exact HNE.out g (by rw [← e, eg])
                · rw [eg] at e
                  injection e with e
                  injection e with e
                  simp at hg2
                  omega
              have hs9 : r < w9.heap.size := Nat.lt_of_lt_of_le (by omega) hB9.size
              have HEnd := Lib.hid (And.intro hB9 (And.intro hR9 (And.intro hN9 hs9)))
              clear hB9 hR9 hN9 hs9
              go_roundw
              case rel => exact ⟨j + 1, m2 + 1, a9, cap9, by go_num, by omega, by have := HMM.out; omega, rfl, by rw [HTk.out, ← List.append_assoc]; exact H9.out.1, by rw [HSn.out]; exact (HM2.out).next HEnd.out.1 hEB, keptOut_below HK2.out HEnd.out.1 (Nat.le_refl _), HEnd.out.2.2.2, HEnd.out.2.1, HEnd.out.2.2.1⟩
              case measure => simp [intOf]; omega
          · obtain rfl : q = j := by omega
            have HT : Hid (R.take q = R) := Lib.hid (by rw [HQ.out]; exact List.take_length)
            rw [HT.out] at HG2 HM2
            have hLL : (L ++ R).length = m2 := by rw [List.length_append, HLm.out, ← HQ.out, HMM.out]
            have HF3 := Lib.hid (show 301 ≤ f2 + m2 by have := HF2.out; omega)
            have HRun3 := Lib.hid (show rnS (bkR n v) bkA (bt ls) f2 (rdS bkA (bt ls) s m R) (L ++ R) = O by rw [← HLm.out]; exact HRun2.out)
            have hpos : 0 < q := by omega
            clear hg2 hM2 hk2 hrh hne hLL hm2
            go_wp2_with (go_at_call 95; ((with_reducible refine (bkNext_any wr A n v _ HM2.out).mono ?_); rintro e w8 ⟨r8, c8, rfl, _, o8, b8⟩; have R8 := Lib.hid (rnd_of HG2.out o8 hWs2); have B8 := Lib.hid b8; clear o8 b8))
            go_roundw
            case rel => exact ⟨f2, _, L ++ R, m2, ad2, cap2, r8, _, c8, rfl, rfl, rfl, HG2.out.below B8.out, R8.out, HM2.out.next (B8.out.mono hWs2) hEB, keptOut_below HK2.out B8.out hWs2, HRun3.out, HF3.out, by have := HMM.out; omega⟩
            case measure => have := HMM.out; simp [lenS]; omega

set_option maxRecDepth 10000 in
theorem mthSlNext (b : Nat) (w : World) : (method 227 74 (.pointer (some ⟨b, 0, none⟩)) "loop.example/softwareradio/impl.nextRound").run Try.prog w = .ok (97, .pointer (some ⟨b, 0, none⟩)) w := by kernel_rfl
set_option maxRecDepth 10000 in
theorem mthSlArrive (b : Nat) (w : World) : (method 227 74 (.pointer (some ⟨b, 0, none⟩)) "loop.example/softwareradio/impl.arrive").run Try.prog w = .ok (96, .pointer (some ⟨b, 0, none⟩)) w := by kernel_rfl
theorem natSl {W : World} {A n : Nat} {v : Nat} {s s' : (Nat → Bool)} {R : List Int} (h : SlM W A n v s) (_e : s = s') (hR : R = (slR n v) s) : R.length ≤ 30 ∧ ∀ j, j < R.length → ∃ k : Nat, el R j = (k : Int) ∧ k < n ∧ (True) := by
  subst hR
  have hv := h.v8
  have hs := (slU_at n s).1
  have h30 := h.n30
  have hg : slU n s + gbLen n v (slU n s) ≤ n := by have := gbLen_le n v (slU n s); omega
  have hl := slF_len s (slU n s) (gbLen n v (slU n s))
  unfold slR
  refine ⟨by omega, fun j hj => ?_⟩
  obtain ⟨k, h1, h2, h3⟩ := slF_mem (el_mem hj)
  exact ⟨k, h1, by omega, trivial⟩

set_option maxRecDepth 100000 in
set_option maxHeartbeats 8000000 in
theorem sendSl_any (W : World) (A n : Nat) (v : Nat) (s0 : (Nat → Bool)) (al : Option Addr) (cl : Nat) (ls : List Bool) (h : SlM W A n v s0) (hl : Bls W A al ls) :
    Calls Try.prog 50 #[.iface 74 (.pointer (some ⟨A + 1, 0, none⟩)), .slice al ls.length cl] W (SendP (rnS (slR n v) slA (bt ls) 301 s0 []) (fun w' s _ => SlM w' A n v s) A (A + 2) W) := by
  have H := Lib.hid h
  have hEB : A + 2 ≤ W.heap.size := h.lt
  have HL := Lib.hid hl
  have hmN := mthSlNext (A + 1)
  have hmA := mthSlArrive (A + 1)
  obtain ⟨O, hO⟩ : ∃ O, O = rnS (slR n v) slA (bt ls) 301 s0 [] := ⟨_, rfl⟩
  have HO := Lib.hid hO.symm
  rw [← hO]
  clear h hl hO
  go_enter Try.func50, Try.ntmps50
  go_wp2_with (go_at_call 97; ((with_reducible refine (slNext_any W A n v s0 H.out).mono ?_); rintro e w1 ⟨r1, c1, rfl, _, o1, b1⟩; have R1 := Lib.hid (rnd_of (Grow.nil .i64 3 W W.heap.size) o1 (Nat.le_refl _)); have B1 := Lib.hid b1; clear o1 b1))
  go_loopw [6, 7] (fun S R wr => ∃ (f : Nat) (s : (Nat → Bool)) (L : List Int) (m : Nat) (ad : Option Addr) (cap : Nat) (ra : Option Addr) (q rc : Nat), S = .slice ad m cap ∧ R = .slice ra q rc ∧ q = ((slR n v) s).length ∧ Grow .i64 3 wr W.heap.size ad m cap L ∧ RndAt wr W.heap.size ad ra ((slR n v) s) ∧ SlM wr A n v s ∧ KeptOut A (A + 2) W wr ∧ rnS (slR n v) slA (bt ls) f s L = O ∧ 301 ≤ f + m ∧ m ≤ 330) (fun S _ _ => 400 - lenS S)
  case atStart => exact ⟨301, s0, [], 0, none, 0, r1, _, c1, rfl, rfl, rfl, Grow.nil _ _ _ _, R1.out, H.out.next B1.out hEB, keptOut_below (KeptOut.refl _ _ _) B1.out (Nat.le_refl _), HO.out, by omega, by omega⟩
  case round =>
    obtain ⟨f, s, L, m, ad, cap, ra, q, rc, rfl, rfl, hq, hgr, hrn, hM, hkp, hrun, hf, hm330⟩ := hrel
    have HG := Lib.hid hgr
    have HM := Lib.hid hM
    have HK := Lib.hid hkp
    have HRun := Lib.hid hrun
    have hLm : L.length = m := hgr.len
    have hWs : W.heap.size ≤ wr.heap.size := hkp.size
    obtain ⟨R, hR⟩ : ∃ R, R = (slR n v) s := ⟨_, rfl⟩
    have HR := Lib.hid hR
    have HLm := Lib.hid hLm
    rw [← hR] at hq hrn
    clear hgr hM hkp hrun hR hLm R1 B1
    by_cases hq0 : q = 0
    · have hR0 : R = [] := List.eq_nil_of_length_eq_zero (by omega)
      have HE : Hid (O = some (L, s)) := Lib.hid (by rw [← HRun.out]; exact rnS_done (by rw [← HR.out]; exact hR0))
      have hqI : ¬ 0 < (q : Int) := by omega
      clear hrn hq hR0
      go_wp2
      go_ret2
      exact ⟨L, true, ad, cap, by rw [HLm.out]; rfl, by rw [HLm.out]; exact HG.out.room, own_grow HG.out, HK.out, .inl ⟨rfl, s, HE.out, by rw [HLm.out]; exact HM.out⟩⟩
    · have hRne : R ≠ [] := fun e => hq0 (by rw [hq, e]; rfl)
      have hqI : 0 < (q : Int) := by omega
      obtain ⟨r, rfl, hr1, hr2, hr3, hr4⟩ := hrn hRne
      have HR3 := Lib.hid hr3
      have HR4 := Lib.hid hr4
      have HQ := Lib.hid hq
      clear hrn hr3 hr4 hq
      by_cases hm3 : 300 ≤ m
      · have HE : Hid (O = none) := Lib.hid (by rw [← HRun.out]; exact rnS_stop (by rw [← HR.out]; exact hRne) (by rw [HLm.out]; exact hm3))
        have hm3I : (300 : Int) ≤ (m : Int) := by omega
        clear hRne
        go_wp2
        go_ret2
        exact ⟨[], false, none, 0, rfl, ⟨Nat.le_refl _, Nat.zero_le _⟩, fun h => absurd rfl h, HK.out, .inr ⟨rfl, rfl, HE.out⟩⟩
      · obtain ⟨f2, hf2, hrun2⟩ := rnS_step (rd := (slR n v)) (ar := slA) (lost := bt ls) (f := f) (s := s) (L := L) (by rw [← HR.out]; exact hRne) (by rw [HLm.out]; exact hm3) (by rw [HLm.out]; exact hf)
        rw [← HR.out] at hf2 hrun2
        have HF2 := Lib.hid hf2
        have HRun2 := Lib.hid (hrun2.symm.trans HRun.out)
        have hm3I : ¬ (300 : Int) ≤ (m : Int) := by omega
        have HNat := Lib.hid (natSl HM.out (show s = s from rfl) HR.out)
        have hq30 : q ≤ 30 := by rw [HQ.out]; exact HNat.out.1
        have HM0 : Hid (SlM wr A n v (rdS slA (bt ls) s m (R.take 0))) := Lib.hid (by rw [List.take_zero]; exact HM.out)
        have HG0 : Hid (Grow .i64 3 wr W.heap.size ad m cap (L ++ R.take 0)) := Lib.hid (by rw [List.take_zero, List.append_nil]; exact HG.out)
        clear hf2 hrun2 hRne hf
        go_wp2
        clear hm3I hqI
        generalize wr = w5 at HG0 HM0 HK HR4 hr1 hWs ⊢
        go_loopw [6, 22] (fun S i ws => ∃ (j m2 : Nat) (ad2 : Option Addr) (cap2 : Nat), i = .int .i64 (j : Int) ∧ j ≤ q ∧ m2 = m + j ∧ S = .slice ad2 m2 cap2 ∧ Grow .i64 3 ws W.heap.size ad2 m2 cap2 (L ++ R.take j) ∧ SlM ws A n v (rdS slA (bt ls) s m (R.take j)) ∧ KeptOut A (A + 2) W ws ∧ r < ws.heap.size ∧ ws.heap[r]? = w5.heap[r]? ∧ (∀ g, ad2 = some ⟨g, 0, none⟩ → g ≠ r)) (fun _ i _ => q - (intOf i).toNat)
        case atStart => exact ⟨0, m, ad, cap, rfl, Nat.zero_le _, rfl, rfl, HG0.out, HM0.out, HK.out, hr1, rfl, HR3.out⟩
        case round =>
          obtain ⟨j, m2, ad2, cap2, rfl, hj, hm2, rfl, hg2, hM2, hk2, hrl, hrh, hne⟩ := hrel
          have HG2 := Lib.hid hg2
          have HM2 := Lib.hid hM2
          have HK2 := Lib.hid hk2
          have HRH := Lib.hid hrh
          have HNE := Lib.hid hne
          have HMM := Lib.hid hm2
          have hWs2 : W.heap.size ≤ wr.heap.size := hk2.size
          have hm2b : m2 ≤ 360 := by omega
          by_cases hjq : j < q
          · obtain ⟨k, hk, hkn, hex⟩ := HNat.out.2 j (by rw [← HQ.out]; exact hjq)
            have cj : wr.cell? ⟨r, j, none⟩ = some (.int .i64 (k : Int)) := by
              rw [World.cell?_of_block (a := ⟨r, j, none⟩) hrh, HR4.out j (by rw [← HQ.out]; exact hjq), hk]
            have hjI : (j : Int) < (q : Int) := by omega
            have HTk := Lib.hid (show R.take (j + 1) = R.take j ++ [(k : Int)] by rw [take_el (by rw [← HQ.out]; exact hjq), hk])
            have HTl := Lib.hid (show (R.take j).length = j by rw [List.length_take, ← HQ.out]; omega)
            have HAr := Lib.hid (slArrive_any wr A n v (rdS slA (bt ls) s m (R.take j)) k (m2 : Int) hM2 hkn)
            have hm2w : m2 < 1099511627776 := by omega
            clear hm2 hg2 hM2 hk2 hrh hne hk hex
            cases hbt : bt ls m2
            · have HIs := Lib.hid (fun W' h => isMarked_is al cl A ls m2 false W' h hbt)
              have HSn : Hid (rdS slA (bt ls) s m (R.take (j + 1)) = slA (rdS slA (bt ls) s m (R.take j)) k m2) := Lib.hid (by
                rw [HTk.out, rdS_snoc, HTl.out, ← HMM.out, hbt, Int.toNat_natCast]; rfl)
              have HLs := Lib.hid (show Bls wr A al ls from HL.out.keep fun p hp => World.cell?_of_block (HK2.out.block _ (by omega) (.inl hp)))
              clear hbt
              go_wp2_with (first
                | (at_builtin; refine wpList_app1k (.tmp 36) (.tmp 38) W.heap.size ad2 m2 cap2 (L ++ R.take j) ⟨w7.heap.size, 0, none⟩ (k : Int) rfl rfl rfl rfl (G7.out.alloc _) (by simp) hm2w (by simp; omega) ?_; intro a9 cap9 w9 h9; have H9 := Lib.hid h9; clear h9)
                | (go_at_call 96; ((with_reducible refine HAr.out.mono ?_); rintro e w7 ⟨rfl, m7, k7⟩; have M7 := Lib.hid m7; have K7 := Lib.hid (keptOut_trans HK2.out k7); have G7 := Lib.hid (HG2.out.keep fun b h1 h2 => k7.block b h2 (.inr (by omega))); have R7 := Lib.hid ((k7.block r hrl (.inr (by omega))).trans HRH.out); have hs7 : wr.heap.size ≤ w7.heap.size := k7.size; clear m7 k7))
                | (go_at_call 63; ((with_reducible refine (HIs.out _ HLs.out).mono ?_); rintro e w6 ⟨rfl, rfl⟩)))
              have hB9 : Below W.heap.size w7 w9 := ((Below.refl _ _).alloc (by omega) _).trans H9.out.2.1
              have hR9 : w9.heap[r]? = w5.heap[r]? := ((H9.out.2.2.1 r (by simp; omega) (fun e => HNE.out r e rfl)).trans (Below.heap_alloc w7 _ r (by omega))).trans R7.out
              have hN9 : ∀ g, a9 = some ⟨g, 0, none⟩ → g ≠ r := fun g eg => by
                rcases H9.out.2.2.2 with e | ⟨g2, hg2, e⟩
                · exact HNE.out g (by rw [← e, eg])
                · rw [eg] at e
                  injection e with e
                  injection e with e
                  simp at hg2
                  omega
              have hs9 : r < w9.heap.size := Nat.lt_of_lt_of_le (by omega) hB9.size
              have HEnd := Lib.hid (And.intro hB9 (And.intro hR9 (And.intro hN9 hs9)))
              clear hB9 hR9 hN9 hs9
              go_roundw
              case rel => exact ⟨j + 1, m2 + 1, a9, cap9, by go_num, by omega, by have := HMM.out; omega, rfl, by rw [HTk.out, ← List.append_assoc]; exact H9.out.1, by rw [HSn.out]; exact M7.out.next HEnd.out.1 hEB, keptOut_below K7.out HEnd.out.1 (Nat.le_refl _), HEnd.out.2.2.2, HEnd.out.2.1, HEnd.out.2.2.1⟩
              case measure => simp [intOf]; omega
            · have HIs := Lib.hid (fun W' h => isMarked_is al cl A ls m2 true W' h hbt)
              have HSn : Hid (rdS slA (bt ls) s m (R.take (j + 1)) = rdS slA (bt ls) s m (R.take j)) := Lib.hid (by
                rw [HTk.out, rdS_snoc, HTl.out, ← HMM.out, hbt]; rfl)
              have HLs := Lib.hid (show Bls wr A al ls from HL.out.keep fun p hp => World.cell?_of_block (HK2.out.block _ (by omega) (.inl hp)))
              clear hbt
              go_wp2_with (first
                | (at_builtin; refine wpList_app1k (.tmp 36) (.tmp 38) W.heap.size ad2 m2 cap2 (L ++ R.take j) ⟨wr.heap.size, 0, none⟩ (k : Int) rfl rfl rfl rfl (HG2.out.alloc _) (by simp) hm2w (by simp; omega) ?_; intro a9 cap9 w9 h9; have H9 := Lib.hid h9; clear h9)
                | (go_at_call 63; ((with_reducible refine (HIs.out _ HLs.out).mono ?_); rintro e w6 ⟨rfl, rfl⟩)))
              have hB9 : Below W.heap.size wr w9 := ((Below.refl _ _).alloc (by omega) _).trans H9.out.2.1
              have hR9 : w9.heap[r]? = w5.heap[r]? := ((H9.out.2.2.1 r (by simp; omega) (fun e => HNE.out r e rfl)).trans (Below.heap_alloc wr _ r (by omega))).trans HRH.out
              have hN9 : ∀ g, a9 = some ⟨g, 0, none⟩ → g ≠ r := fun g eg => by
                rcases H9.out.2.2.2 with e | ⟨g2, hg2, e⟩
                · exact HNE.out g (by rw [← e, eg])
                · rw [eg] at e
                  injection e with e
                  injection e with e
                  simp at hg2
                  omega
              have hs9 : r < w9.heap.size := Nat.lt_of_lt_of_le (by omega) hB9.size
              have HEnd := Lib.hid (And.intro hB9 (And.intro hR9 (And.intro hN9 hs9)))
              clear hB9 hR9 hN9 hs9
              go_roundw
              case rel => exact ⟨j + 1, m2 + 1, a9, cap9, by go_num, by omega, by have := HMM.out; omega, rfl, by rw [HTk.out, ← List.append_assoc]; exact H9.out.1, by rw [HSn.out]; exact (HM2.out).next HEnd.out.1 hEB, keptOut_below HK2.out HEnd.out.1 (Nat.le_refl _), HEnd.out.2.2.2, HEnd.out.2.1, HEnd.out.2.2.1⟩
              case measure => simp [intOf]; omega
          · obtain rfl : q = j := by omega
            have HT : Hid (R.take q = R) := Lib.hid (by rw [HQ.out]; exact List.take_length)
            rw [HT.out] at HG2 HM2
            have hLL : (L ++ R).length = m2 := by rw [List.length_append, HLm.out, ← HQ.out, HMM.out]
            have HF3 := Lib.hid (show 301 ≤ f2 + m2 by have := HF2.out; omega)
            have HRun3 := Lib.hid (show rnS (slR n v) slA (bt ls) f2 (rdS slA (bt ls) s m R) (L ++ R) = O by rw [← HLm.out]; exact HRun2.out)
            have hpos : 0 < q := by omega
            clear hg2 hM2 hk2 hrh hne hLL hm2
            go_wp2_with (go_at_call 97; ((with_reducible refine (slNext_any wr A n v _ HM2.out).mono ?_); rintro e w8 ⟨r8, c8, rfl, _, o8, b8⟩; have R8 := Lib.hid (rnd_of HG2.out o8 hWs2); have B8 := Lib.hid b8; clear o8 b8))
            go_roundw
            case rel => exact ⟨f2, _, L ++ R, m2, ad2, cap2, r8, _, c8, rfl, rfl, rfl, HG2.out.below B8.out, R8.out, HM2.out.next (B8.out.mono hWs2) hEB, keptOut_below HK2.out B8.out hWs2, HRun3.out, HF3.out, by have := HMM.out; omega⟩
            case measure => have := HMM.out; simp [lenS]; omega
end Go.Proofs.Ytenihedpbklmlaa
