/-
  What the model of DecodeWord answers, for every list: it tries all pairs of places. Condition: a list that can be read.
-/
import Derived.Test.YtkeeijkjemcbcaaDoorWrd9
namespace Go.Proofs.YtkeeijkjemcbcaaDoor
open Go.RowKit

theorem dec6_found {xs : List Int} {d : Nat → Nat} (h : wok 15 xs = true) (hn : Near (co xs) d) (hz : Zero6 d) : dec6 xs = some (ofN d 15) := by
  have hc := wok_lt h
  obtain ⟨p, hp⟩ := errsW_full hc hn hz
  obtain ⟨h1, h2⟩ := errsW_sound hc hp
  rw [dec6_some h hp]
  congr 1
  exact ofN_congr (near_uniq hc h1 hn h2 hz)
theorem dec6_tried {xs : List Int} (h : wok 15 xs = true) (hno : ∀ i j, i < 15 → i ≤ j → j < 15 → ¬ Zero6 (tryW (co xs) i j)) : dec6 xs = none := by
  have hc := wok_lt h
  cases hp : errsW (co xs) with
  | none => exact dec6_none h hp
  | some p =>
    obtain ⟨h1, h2⟩ := errsW_sound hc hp
    obtain ⟨i, j, hij, hj, he⟩ := try_full hc h1 h2
    exact absurd (by rw [he]; exact h2) (hno i j (by omega) hij hj)
theorem synL6_ofN {d : Nat → Nat} (hd : Lt16 d) : synL6 (ofN d 15) = [(syn6 d 0 : Int), syn6 d 1, syn6 d 2, syn6 d 3] := by
  have e : ∀ k, syn6 (co (ofN d 15)) k = syn6 d k := fun k => syn6_congr k fun i hi => co_ofN hi
  rw [synL6_yes (wok_ofN hd 15), e, e, e, e]
theorem allZ_four (a b c d : Nat) : allZ [(a : Int), b, c, d] = decide (a = 0 ∧ b = 0 ∧ c = 0 ∧ d = 0) := by
  rw [Bool.eq_iff_iff]
  simp only [allZ, List.all_cons, List.all_nil, Bool.and_eq_true, beq_iff_eq, decide_eq_true_eq, and_true]
  omega
theorem allZ_syn {d : Nat → Nat} (hd : Lt16 d) (h : Zero6 d) : allZ (synL6 (ofN d 15)) = true := by
  rw [synL6_ofN hd, allZ_four]
  exact decide_eq_true ⟨h 0 (by omega), h 1 (by omega), h 2 (by omega), h 3 (by omega)⟩
theorem allZ_not {d : Nat → Nat} (hd : Lt16 d) (h : ¬ Zero6 d) : allZ (synL6 (ofN d 15)) = false := by
  rw [synL6_ofN hd, allZ_four]
  exact decide_eq_false fun ⟨h0, h1, h2, h3⟩ => h (four h0 h1 h2 h3)

/-- The list that is tried, in a block of the call's own. -/
def WS (w W : World) (cb n cap : Nat) (c : Nat → Nat) : Prop := Grow .i64 3 W w.heap.size (some ⟨cb, 0, none⟩) n cap (ofN c 15) ∧ Below w.heap.size w W
theorem WS.len {w W : World} {cb n cap : Nat} {c : Nat → Nat} (h : WS w W cb n cap c) : n = 15 := by have := h.1.len; rw [ofN_length] at this; exact this.symm
theorem WS.cell {w W : World} {cb n cap : Nat} {c : Nat → Nat} (h : WS w W cb n cap c) {i : Nat} (hi : i < 15) : W.cell? ⟨cb, i, none⟩ = some (.int .i64 (c i)) ∧ W.frozen? ⟨cb, i, none⟩ = false := by
  obtain rfl := h.len
  obtain ⟨b, off, e, _, hc⟩ := h.1.ints.at_ (i := i) (by rw [ofN_length]; exact hi)
  injection e with e
  injection e with e1 e2
  subst e1 e2
  rw [Nat.zero_add, ofN_el hi] at hc
  exact ⟨hc, (grow_cell h.1 hi).2⟩
theorem WS.set {w W : World} {cb n cap : Nat} {c : Nat → Nat} (h : WS w W cb n cap c) {P v x : Nat} (hP : P < 15) (hx : x = c P ^^^ v) : WS w (W.setCell ⟨cb, P, none⟩ (.int .i64 (x : Int))) cb n cap (upd c P v) := by
  obtain ⟨b, e1, e2⟩ := h.1.addr0 (by simp)
  injection e1 with e1
  injection e1 with e1
  subst e1
  refine ⟨?_, h.2.setCell (by exact e2) _⟩
  have := h.1.set P (x : Int)
  rwa [hx, ofN_set c hP, ← hx] at this
/-- The syndromes lie in a block of the call's own, and nothing that was there has changed. -/
def FS (w W : World) (sb s0 s1 s2 s3 : Nat) : Prop := Ints .i64 W W.heap.size (some ⟨sb, 0, none⟩) [(s0 : Int), s1, s2, s3] ∧ Below w.heap.size w W
theorem FS.next {w W W' : World} {sb s0 s1 s2 s3 : Nat} (h : FS w W sb s0 s1 s2 s3) (hb : Below W.heap.size W W') : FS w W' sb s0 s1 s2 s3 := ⟨h.1.next hb, Below.next h.2 (Nat.le_refl _) hb⟩
theorem FS.drewN {w W : World} {sb s0 s1 s2 s3 : Nat} (h : FS w W sb s0 s1 s2 s3) (n : Nat) : FS w (W.drewN n) sb s0 s1 s2 s3 := ⟨h.1, below_drewN h.2 n⟩
theorem FS.cells {w W : World} {sb s0 s1 s2 s3 : Nat} (h : FS w W sb s0 s1 s2 s3) : W.cell? ⟨sb, 0, none⟩ = some (.int .i64 s0) ∧ W.cell? ⟨sb, 1, none⟩ = some (.int .i64 s1) := by
  obtain ⟨b, off, e, _, hc⟩ := h.1 (by simp)
  injection e with e
  injection e with e1 e2
  subst e1 e2
  have h0 := hc 0 (by simp)
  have h1 := hc 1 (by simp)
  rw [Nat.zero_add] at h0 h1
  exact ⟨h0, h1⟩
theorem pow_loc (k : Nat) (hk : k < 15) (w : World) : Calls Tryd.prog 64 #[.int .i64 2, .int .i64 (14 - (k : Int))] w fun e w' => e = .returned (.int .i64 (loc k : Int)) ∧ w = w' := by
  have h := specFieldPower_any 2 (14 - (k : Int)) w
  have e : powOr 2 (14 - (k : Int)) = (loc k : Int) := by
    rw [show 14 - (k : Int) = ((14 - k : Nat) : Int) by omega]
    exact powOr_nat (a := 2) (by omega) (by omega)
  rwa [e] at h
theorem inv_q (a : Nat) (w : World) (ha : a < 16) : Calls Tryd.prog 65 #[.int .i64 a] w fun e w' => e = .returned (.int .i64 (finv a : Int)) ∧ w' = w := by
  have h := specFieldInverse_any (a : Int) w
  rw [invOr_nat ha] at h
  exact h.mono fun _ _ ⟨h1, h2⟩ => ⟨h1, h2.symm⟩

/-- No try before place k, and none at place k before place m, finds a word of the code. -/
def NoHit (c : Nat → Nat) (k : Nat) : Prop := ∀ i j, i < k → i ≤ j → j < 15 → ¬ Zero6 (tryW c i j)
def NoRow (c : Nat → Nat) (k m : Nat) : Prop := ∀ j, k ≤ j → j < m → ¬ Zero6 (tryW c k j)
theorem NoHit.next {c : Nat → Nat} {k : Nat} (h : NoHit c k) (h2 : NoRow c k 15) : NoHit c (k + 1) := fun i j hi hij hj => by
  by_cases he : i = k
  · subst he; exact h2 j hij hj
  · exact h i j (by omega) hij hj
theorem NoRow.next {c : Nat → Nat} {k m : Nat} (h : NoRow c k m) (h2 : ¬ Zero6 (tryW c k m)) : NoRow c k (m + 1) := fun j hj hm => by
  by_cases he : j = m
  · subst he; exact h2
  · exact h j hj (by omega)
set_option maxRecDepth 100000 in
set_option maxHeartbeats 4000000 in
theorem l6Fix_any (a : Option Addr) (c : Nat) (xs : List Int) (w : World) (hx : Ints .i64 w w.heap.size a xs) (hk : wok 15 xs = true) :
    Calls Tryd.prog 51 #[.slice a xs.length c] w (DecP (dec6 xs) w) := by
  have hl := (wok_parts hk).1
  have hc16 := wok_lt hk
  have HS := Lib.hid (specWordSyndromes_any a c xs w hx (by omega))
  have HX := Lib.hid hx
  have HK := Lib.hid hk
  have HL := Lib.hid hl
  have H16 := Lib.hid hc16
  have hl20 : xs.length ≤ 20 := by omega
  have hs0 := syn6_lt hc16 0
  have hs1 := syn6_lt hc16 1
  rw [synL6_yes hk] at HS
  obtain ⟨s0, e0⟩ : ∃ s, s = syn6 (co xs) 0 := ⟨_, rfl⟩
  obtain ⟨s1, e1⟩ : ∃ s, s = syn6 (co xs) 1 := ⟨_, rfl⟩
  generalize syn6 (co xs) 2 = s2 at *
  generalize syn6 (co xs) 3 = s3 at *
  rw [← e0] at HS hs0
  rw [← e1] at HS hs1
  have E0 := Lib.hid e0
  have E1 := Lib.hid e1
  clear hx hk hl hc16 e0 e1
  go_enter Tryd.func51, Tryd.ntmps51
  go_wp2_with fail
  refine HS.out.mono ?_
  rintro e w1 ⟨sa, n, cap, rfl, hg, b1⟩
  obtain ⟨sb, rfl, _⟩ := hg.addr0 (grow_some hg (by simp))
  obtain rfl : n = 4 := hg.len.symm
  have F1 : Hid (FS w w1 sb s0 s1 s2 s3) := ⟨hg.ints, b1⟩
  clear hg b1 HS
  go_wp2
  go_loopw [5] (fun i wr => ∃ k : Nat, k ≤ 15 ∧ i = .int .i64 k ∧ FS w wr sb s0 s1 s2 s3 ∧ NoHit (co xs) k) (fun i _ => 15 - (intOf i).toNat)
  case atStart => exact ⟨0, Nat.zero_le _, rfl, F1.out, fun i j hi => absurd hi (by omega)⟩
  case round =>
    obtain ⟨k, hk15, rfl, hf, hno⟩ := hrel
    have F2 := Lib.hid hf
    have HN := Lib.hid hno
    clear hf hno F1
    by_cases hlt : k < 15
    · have hkb : decide ((k : Int) < 15) = true := by simp; omega
      go_wp2
      clear hkb
      go_loopw [6] (fun j wr => ∃ m : Nat, (k ≤ m ∧ m ≤ 15) ∧ j = .int .i64 m ∧ FS w wr sb s0 s1 s2 s3 ∧ NoRow (co xs) k m) (fun j _ => 15 - (intOf j).toNat)
      case atStart => exact ⟨k, ⟨Nat.le_refl _, hk15⟩, rfl, F2.out, fun j h1 h2 => absurd h2 (by omega)⟩
      case round =>
        obtain ⟨m, ⟨hkm, hm15⟩, rfl, hf, hrow⟩ := hrel
        have F3 := Lib.hid hf
        have HR := Lib.hid hrow
        clear hf hrow F2
        by_cases hltm : m < 15
        · have HPk := Lib.hid (fun W => pow_loc k hlt W)
          have HPm := Lib.hid (fun W => pow_loc m hltm W)
          have hX16 := loc_lt k
          have hY16 := loc_lt m
          obtain ⟨X, hX⟩ : ∃ X, X = loc k := ⟨_, rfl⟩
          obtain ⟨Y, hY⟩ : ∃ Y, Y = loc m := ⟨_, rfl⟩
          rw [← hX] at HPk hX16
          rw [← hY] at HPm hY16
          have HXk := Lib.hid hX
          have HYm := Lib.hid hY
          clear hX hY
          obtain ⟨c0, c1⟩ := F3.out.cells
          by_cases hkm2 : k = m
          · obtain ⟨E, hE⟩ : ∃ E, E = fmul s0 (finv X) := ⟨_, rfl⟩
            obtain ⟨F, hF⟩ : ∃ F : Nat, F = 0 := ⟨_, rfl⟩
            have hE16 : E < 16 := by rw [hE]; exact fmul_lt hs0 (finv_lt hX16)
            have hF16 : F < 16 := by omega
            have HTE : Hid (E = tryE (co xs) k m) := by show E = _; rw [hE, tryE, if_pos hkm2, HXk.out, E0.out]
            have HTF : Hid (F = tryF (co xs) k m) := by show F = _; rw [hF, tryF, if_pos hkm2]
            have HI := Lib.hid (fun W => inv_q X W hX16)
            have HM := Lib.hid (fun W => l5Mul_q s0 (finv X) W hs0 (finv_lt hX16))
            rw [← hE] at HM
            generalize finv X = V at *
            have zkm : ((k : Int) == (m : Int)) = true := by simp [hkm2]
            have hF0 := Lib.hid hF
            clear hE hkm2 hF
            go_wp2_with (first | (go_at_call 64; ((with_reducible refine (HPk.out _).mono ?_); rintro e w' ⟨rfl, rfl⟩)) | (go_at_call 64; ((with_reducible refine (HPm.out _).mono ?_); rintro e w' ⟨rfl, rfl⟩)))
            go_quiet ((first | (go_at_call 65; with_reducible exact Calls.quiet_of_same (HI.out _)) | (go_at_call 39; with_reducible exact Calls.quiet_of_same (HM.out _))))
            have F4 := Lib.hid (F3.out.drewN nq)
            clear c0 c1 zkm F3
            generalize wr.drewN nq = W1 at *
            have hck16 := H16.out k
            obtain ⟨ck, hck⟩ : ∃ ck, ck = co xs k := ⟨_, rfl⟩
            obtain ⟨x1, hx1⟩ : ∃ x1, x1 = co xs k ^^^ E := ⟨_, rfl⟩
            have hb1 : bits .xor .i64 (ck : Int) (E : Int) = (x1 : Int) := by rw [hx1, ← hck]; exact xor_word _ _ (by omega) (by omega)
            have hcm16 := upd_lt (m := k) H16.out hE16 m
            obtain ⟨cm, hcm⟩ : ∃ cm, cm = upd (co xs) k E m := ⟨_, rfl⟩
            obtain ⟨x2, hx2⟩ : ∃ x2, x2 = upd (co xs) k E m ^^^ F := ⟨_, rfl⟩
            have hb2 : bits .xor .i64 (cm : Int) (F : Int) = (x2 : Int) := by rw [hx2, ← hcm]; exact xor_word _ _ (by omega) (by omega)
            rw [← hck] at hck16
            rw [← hcm] at hcm16
            have Hx1 := Lib.hid hx1
            have Hx2 := Lib.hid hx2
            have Hck := Lib.hid hck
            have Hcm := Lib.hid hcm
            have hkl : k < xs.length := by have := HL.out; omega
            have hml : m < xs.length := by have := HL.out; omega
            clear hx1 hx2 hck hcm
            have hb3 : bits .xor .i64 (cm : Int) 0 = (x2 : Int) := by rw [hF0.out] at hb2; exact hb2
            have xs_eq := wok_eq HK.out
            have IX := Lib.hid (fun o => ((HX.out.next F4.out.2).below (below_alloc W1 o)))
            have BX := Lib.hid (fun o => below_alloc W1 o)
            have XE := Lib.hid xs_eq
            clear xs_eq
            go_wp2_with (at_builtin; refine wpList_appendA (.tmp 64) (.tmp 65) W1.heap.size (some ⟨W1.heap.size, 0, none⟩) a 0 0 xs.length c W1.heap.size [] xs rfl rfl rfl rfl (Grow.lit0 _ _ _ _ (Nat.le_refl _)) (IX.out _) rfl (by omega) (by simp) ?_; intro a4 cap4 w4 hg4 hb4 _; rw [Nat.zero_add, List.nil_append] at hg4; have hB4 := (BX.out _).trans hb4; obtain ⟨cb, rfl, hcb⟩ := hg4.addr0 (grow_some hg4 (by have := HL.out; omega)); rw [XE.out] at hg4; have S4 : Hid (WS W1 w4 cb (ofN (co xs) 15).length cap4 (co xs)) := ⟨hg4, hB4⟩; rw [← XE.out] at S4; obtain ⟨k4, f4⟩ := S4.out.cell hlt; have S5 := Lib.hid (S4.out.set hlt Hx1.out); obtain ⟨k5, f5⟩ := S5.out.cell hltm; rw [← Hck.out] at k4; rw [← Hcm.out] at k5; have S6 : Hid (WS W1 ((w4.setCell ⟨cb, k, none⟩ (.int .i64 (x1 : Int))).setCell ⟨cb, m, none⟩ (.int .i64 (x2 : Int))) cb xs.length cap4 (upd (upd (co xs) k E) m F)) := S5.out.set hltm Hx2.out; clear hg4 hb4 hB4)
            have hTW : upd (upd (co xs) k E) m F = tryW (co xs) k m := by unfold tryW; rw [← HTE.out, ← HTF.out]
            have S7 : Hid (WS W1 ((w4.setCell ⟨cb, k, none⟩ (.int .i64 (x1 : Int))).setCell ⟨cb, m, none⟩ (.int .i64 (x2 : Int))) cb xs.length cap4 (tryW (co xs) k m)) := by show WS _ _ _ _ _ _; rw [← hTW]; exact S6.out
            have hd16 : Lt16 (tryW (co xs) k m) := upd_lt (upd_lt H16.out (tryE_lt H16.out k m)) (tryF_lt H16.out k m)
            clear hTW hb3 S4 S5 S6 k4 f4 k5 f5 hb1 hb2 Hx1 Hx2 Hck Hcm IX BX HTE HTF
            generalize (w4.setCell ⟨cb, k, none⟩ (.int .i64 (x1 : Int))).setCell ⟨cb, m, none⟩ (.int .i64 (x2 : Int)) = W6 at *
            have hW := specWordSyndromes_any (some ⟨cb, 0, none⟩) cap4 (ofN (tryW (co xs) k m) 15) W6 S7.out.1.ints (by rw [ofN_length]; omega)
            rw [ofN_length] at hW
            have hlen4 : (synL6 (ofN (tryW (co xs) k m) 15)).length ≤ 1048576 := by rw [synL6_ofN hd16]; simp
            have HZL := Lib.hid (fun h => allZ_syn hd16 h)
            have HZN := Lib.hid (fun h => allZ_not hd16 h)
            generalize synL6 (ofN (tryW (co xs) k m) 15) = ZL at *
            have HW : Hid (Calls Tryd.prog 21 #[.slice (some ⟨cb, 0, none⟩) xs.length cap4] W6 (NewL ZL W6)) := by show Calls _ _ _ _ _; rw [HL.out]; exact hW
            clear hW hd16
            refine HW.out.mono ?_
            rintro e w7 ⟨v7, n7, cap7, rfl, hg7, hb7⟩
            obtain rfl : ZL.length = n7 := hg7.len
            have HZ := Lib.hid (l6Zero_any v7 cap7 w7.heap.size ZL w7 hg7.ints hlen4)
            have F7 := Lib.hid ((F4.out.next (S7.out.2)).next hb7)
            have G7 := Lib.hid ((S7.out.1.below hb7).base_le F4.out.2.size)
            clear hg7 hb7 HW S7
            by_cases hz : Zero6 (tryW (co xs) k m)
            · rw [HZL.out hz] at HZ
              have HE := Lib.hid (dec6_found HK.out (tryW_near H16.out hlt hltm) hz)
              clear hz
              go_wp2_with fail
              refine HZ.out.mono ?_
              rintro e w' ⟨rfl, rfl⟩
              go_wp2
              go_ret2
              rw [HE.out]
              exact decP_some G7.out F7.out.2
            · rw [HZN.out hz] at HZ
              have HR2 := Lib.hid (HR.out.next hz)
              clear hz
              go_wp2_with fail
              refine HZ.out.mono ?_
              rintro e w' ⟨rfl, rfl⟩
              go_wp2
              go_roundw
              case rel => exact ⟨m + 1, ⟨by omega, by omega⟩, by go_num, F7.out, HR2.out⟩
              case measure => simp [intOf]; omega
          · have hkm3 : X ≠ Y := fun h => hkm2 (loc_inj hlt hltm (by rw [← HXk.out, ← HYm.out, h]))
            obtain ⟨p1, hp1⟩ : ∃ p, p = fmul s0 X := ⟨_, rfl⟩
            obtain ⟨p2, hp2⟩ : ∃ p, p = p1 ^^^ s1 := ⟨_, rfl⟩
            obtain ⟨p3, hp3⟩ : ∃ p, p = X ^^^ Y := ⟨_, rfl⟩
            obtain ⟨p4, hp4⟩ : ∃ p, p = fmul Y p3 := ⟨_, rfl⟩
            obtain ⟨p5, hp5⟩ : ∃ p, p = finv p4 := ⟨_, rfl⟩
            obtain ⟨F, hF⟩ : ∃ F, F = fmul p2 p5 := ⟨_, rfl⟩
            obtain ⟨q1, hq1⟩ : ∃ p, p = fmul F Y := ⟨_, rfl⟩
            obtain ⟨q2, hq2⟩ : ∃ p, p = s0 ^^^ q1 := ⟨_, rfl⟩
            obtain ⟨q3, hq3⟩ : ∃ p, p = finv X := ⟨_, rfl⟩
            obtain ⟨E, hE⟩ : ∃ E, E = fmul q2 q3 := ⟨_, rfl⟩
            have l1 : p1 < 16 := by rw [hp1]; exact fmul_lt hs0 hX16
            have l2 : p2 < 16 := by rw [hp2]; exact xor_lt l1 hs1
            have l3 : p3 < 16 := by rw [hp3]; exact xor_lt hX16 hY16
            have l4 : p4 < 16 := by rw [hp4]; exact fmul_lt hY16 l3
            have l5 : p5 < 16 := by rw [hp5]; exact finv_lt l4
            have hF16 : F < 16 := by rw [hF]; exact fmul_lt l2 l5
            have m1 : q1 < 16 := by rw [hq1]; exact fmul_lt hF16 hY16
            have m2 : q2 < 16 := by rw [hq2]; exact xor_lt hs0 m1
            have m3 : q3 < 16 := by rw [hq3]; exact finv_lt hX16
            have hE16 : E < 16 := by rw [hE]; exact fmul_lt m2 m3
            have HTF : Hid (F = tryF (co xs) k m) := by show F = _; rw [tryF, if_neg hkm2, ← E0.out, ← E1.out, ← HXk.out, ← HYm.out, hF, hp2, hp1, hp5, hp4, hp3]; rfl
            have HTE : Hid (E = tryE (co xs) k m) := by
              have h := HTF.out
              show E = _
              rw [tryF, if_neg hkm2] at h
              rw [tryE, if_neg hkm2, ← h, ← E0.out, ← HXk.out, ← HYm.out, hE, hq2, hq1, hq3]; rfl
            have x2w : bits .xor .i64 (p1 : Int) (s1 : Int) = (p2 : Int) := by rw [hp2]; exact xor_word _ _ (by omega) (by omega)
            have x3w : bits .xor .i64 (X : Int) (Y : Int) = (p3 : Int) := by rw [hp3]; exact xor_word _ _ (by omega) (by omega)
            have y2w : bits .xor .i64 (s0 : Int) (q1 : Int) = (q2 : Int) := by rw [hq2]; exact xor_word _ _ (by omega) (by omega)
            have M1 := Lib.hid (fun W => l5Mul_q s0 X W hs0 hX16)
            have M2 := Lib.hid (fun W => l5Mul_q Y p3 W hY16 l3)
            have M3 := Lib.hid (fun W => l5Mul_q p2 p5 W l2 l5)
            have M4 := Lib.hid (fun W => l5Mul_q F Y W hF16 hY16)
            have M5 := Lib.hid (fun W => l5Mul_q q2 q3 W m2 m3)
            have I1 := Lib.hid (fun W => inv_q p4 W l4)
            have I2 := Lib.hid (fun W => inv_q X W hX16)
            rw [← hp1] at M1
            rw [← hp4] at M2
            rw [← hF] at M3
            rw [← hq1] at M4
            rw [← hE] at M5
            rw [← hp5] at I1
            rw [← hq3] at I2
            have zkm : ((k : Int) == (m : Int)) = false := by rw [beq_eq_false_iff_ne]; omega
            clear hp1 hp2 hp3 hp4 hp5 hF hq1 hq2 hq3 hE hkm2 hkm3
            go_wp2_with (first | (go_at_call 64; ((with_reducible refine (HPk.out _).mono ?_); rintro e w' ⟨rfl, rfl⟩)) | (go_at_call 64; ((with_reducible refine (HPm.out _).mono ?_); rintro e w' ⟨rfl, rfl⟩)))
            go_quiet ((first
              | (go_at_call 39; with_reducible exact Calls.quiet_of_same (M1.out _))
              | (go_at_call 39; with_reducible exact Calls.quiet_of_same (M2.out _))
              | (go_at_call 65; with_reducible exact Calls.quiet_of_same (I1.out _))
              | (go_at_call 39; with_reducible exact Calls.quiet_of_same (M3.out _))))
            have F3b := Lib.hid (F3.out.drewN nq)
            clear c0 c1 F3
            generalize wr.drewN nq = Wq at *
            obtain ⟨c0, c1⟩ := F3b.out.cells
            go_wp2
            go_quiet ((first
              | (go_at_call 39; with_reducible exact Calls.quiet_of_same (M4.out _))
              | (go_at_call 65; with_reducible exact Calls.quiet_of_same (I2.out _))
              | (go_at_call 39; with_reducible exact Calls.quiet_of_same (M5.out _))))
            have F4 := Lib.hid (F3b.out.drewN nq)
            clear c0 c1 zkm F3b
            generalize Wq.drewN nq = W1 at *
            have hck16 := H16.out k
            obtain ⟨ck, hck⟩ : ∃ ck, ck = co xs k := ⟨_, rfl⟩
            obtain ⟨x1, hx1⟩ : ∃ x1, x1 = co xs k ^^^ E := ⟨_, rfl⟩
            have hb1 : bits .xor .i64 (ck : Int) (E : Int) = (x1 : Int) := by rw [hx1, ← hck]; exact xor_word _ _ (by omega) (by omega)
            have hcm16 := upd_lt (m := k) H16.out hE16 m
            obtain ⟨cm, hcm⟩ : ∃ cm, cm = upd (co xs) k E m := ⟨_, rfl⟩
            obtain ⟨x2, hx2⟩ : ∃ x2, x2 = upd (co xs) k E m ^^^ F := ⟨_, rfl⟩
            have hb2 : bits .xor .i64 (cm : Int) (F : Int) = (x2 : Int) := by rw [hx2, ← hcm]; exact xor_word _ _ (by omega) (by omega)
            rw [← hck] at hck16
            rw [← hcm] at hcm16
            have Hx1 := Lib.hid hx1
            have Hx2 := Lib.hid hx2
            have Hck := Lib.hid hck
            have Hcm := Lib.hid hcm
            have hkl : k < xs.length := by have := HL.out; omega
            have hml : m < xs.length := by have := HL.out; omega
            clear hx1 hx2 hck hcm
            have xs_eq := wok_eq HK.out
            have IX := Lib.hid (fun o => ((HX.out.next F4.out.2).below (below_alloc W1 o)))
            have BX := Lib.hid (fun o => below_alloc W1 o)
            have XE := Lib.hid xs_eq
            clear xs_eq
            go_wp2_with (at_builtin; refine wpList_appendA (.tmp 64) (.tmp 65) W1.heap.size (some ⟨W1.heap.size, 0, none⟩) a 0 0 xs.length c W1.heap.size [] xs rfl rfl rfl rfl (Grow.lit0 _ _ _ _ (Nat.le_refl _)) (IX.out _) rfl (by omega) (by simp) ?_; intro a4 cap4 w4 hg4 hb4 _; rw [Nat.zero_add, List.nil_append] at hg4; have hB4 := (BX.out _).trans hb4; obtain ⟨cb, rfl, hcb⟩ := hg4.addr0 (grow_some hg4 (by have := HL.out; omega)); rw [XE.out] at hg4; have S4 : Hid (WS W1 w4 cb (ofN (co xs) 15).length cap4 (co xs)) := ⟨hg4, hB4⟩; rw [← XE.out] at S4; obtain ⟨k4, f4⟩ := S4.out.cell hlt; have S5 := Lib.hid (S4.out.set hlt Hx1.out); obtain ⟨k5, f5⟩ := S5.out.cell hltm; rw [← Hck.out] at k4; rw [← Hcm.out] at k5; have S6 : Hid (WS W1 ((w4.setCell ⟨cb, k, none⟩ (.int .i64 (x1 : Int))).setCell ⟨cb, m, none⟩ (.int .i64 (x2 : Int))) cb xs.length cap4 (upd (upd (co xs) k E) m F)) := S5.out.set hltm Hx2.out; clear hg4 hb4 hB4)
            have hTW : upd (upd (co xs) k E) m F = tryW (co xs) k m := by unfold tryW; rw [← HTE.out, ← HTF.out]
            have S7 : Hid (WS W1 ((w4.setCell ⟨cb, k, none⟩ (.int .i64 (x1 : Int))).setCell ⟨cb, m, none⟩ (.int .i64 (x2 : Int))) cb xs.length cap4 (tryW (co xs) k m)) := by show WS _ _ _ _ _ _; rw [← hTW]; exact S6.out
            have hd16 : Lt16 (tryW (co xs) k m) := upd_lt (upd_lt H16.out (tryE_lt H16.out k m)) (tryF_lt H16.out k m)
            clear hTW S4 S5 S6 k4 f4 k5 f5 hb1 hb2 Hx1 Hx2 Hck Hcm IX BX HTE HTF
            generalize (w4.setCell ⟨cb, k, none⟩ (.int .i64 (x1 : Int))).setCell ⟨cb, m, none⟩ (.int .i64 (x2 : Int)) = W6 at *
            have hW := specWordSyndromes_any (some ⟨cb, 0, none⟩) cap4 (ofN (tryW (co xs) k m) 15) W6 S7.out.1.ints (by rw [ofN_length]; omega)
            rw [ofN_length] at hW
            have hlen4 : (synL6 (ofN (tryW (co xs) k m) 15)).length ≤ 1048576 := by rw [synL6_ofN hd16]; simp
            have HZL := Lib.hid (fun h => allZ_syn hd16 h)
            have HZN := Lib.hid (fun h => allZ_not hd16 h)
            generalize synL6 (ofN (tryW (co xs) k m) 15) = ZL at *
            have HW : Hid (Calls Tryd.prog 21 #[.slice (some ⟨cb, 0, none⟩) xs.length cap4] W6 (NewL ZL W6)) := by show Calls _ _ _ _ _; rw [HL.out]; exact hW
            clear hW hd16
            refine HW.out.mono ?_
            rintro e w7 ⟨v7, n7, cap7, rfl, hg7, hb7⟩
            obtain rfl : ZL.length = n7 := hg7.len
            have HZ := Lib.hid (l6Zero_any v7 cap7 w7.heap.size ZL w7 hg7.ints hlen4)
            have F7 := Lib.hid ((F4.out.next (S7.out.2)).next hb7)
            have G7 := Lib.hid ((S7.out.1.below hb7).base_le F4.out.2.size)
            clear hg7 hb7 HW S7
            by_cases hz : Zero6 (tryW (co xs) k m)
            · rw [HZL.out hz] at HZ
              have HE := Lib.hid (dec6_found HK.out (tryW_near H16.out hlt hltm) hz)
              clear hz
              go_wp2_with fail
              refine HZ.out.mono ?_
              rintro e w' ⟨rfl, rfl⟩
              go_wp2
              go_ret2
              rw [HE.out]
              exact decP_some G7.out F7.out.2
            · rw [HZN.out hz] at HZ
              have HR2 := Lib.hid (HR.out.next hz)
              clear hz
              go_wp2_with fail
              refine HZ.out.mono ?_
              rintro e w' ⟨rfl, rfl⟩
              go_wp2
              go_roundw
              case rel => exact ⟨m + 1, ⟨by omega, by omega⟩, by go_num, F7.out, HR2.out⟩
              case measure => simp [intOf]; omega
        · obtain rfl : m = 15 := by omega
          have HN2 := Lib.hid (HN.out.next HR.out)
          go_wp2
          go_roundw
          case rel => exact ⟨k + 1, by omega, by go_num, F3.out, HN2.out⟩
          case measure => simp [intOf]; omega
    · obtain rfl : k = 15 := by omega
      have HE := Lib.hid (dec6_tried HK.out HN.out)
      go_wp2
      go_ret2
      rw [HE.out]
      exact ⟨_, 0, rfl, ⟨Nat.le_refl _, Nat.zero_le _⟩, fun h => absurd rfl h, F2.out.2.alloc F2.out.2.size _⟩
end Go.Proofs.YtkeeijkjemcbcaaDoor
