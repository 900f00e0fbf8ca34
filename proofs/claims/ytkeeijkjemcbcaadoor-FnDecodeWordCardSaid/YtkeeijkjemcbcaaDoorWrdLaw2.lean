/-
  The law of three symbols changed, walked: it returns true for every code, and writes into nothing that was there. Condition: the program's four tables lie in their variables.
-/
import Derived.Test.YtkeeijkjemcbcaaDoorWrdLaw1
namespace Go.Proofs.YtkeeijkjemcbcaaDoor
open Go.RowKit

/-- A word after k of the changes. -/
def hurt3 (c d : Nat → Nat) : Nat → Nat → Nat
  | 0 => c
  | k + 1 => upd (hurt3 c d k) (4 * k) (1 + d k % 15)
theorem hurt3_lt {c d : Nat → Nat} (hc : Lt16 c) : ∀ k, Lt16 (hurt3 c d k)
  | 0 => hc
  | k + 1 => upd_lt (hurt3_lt hc k) (by omega)
theorem wt_up {c : Nat → Nat} {n : Nat} : ∀ m, n ≤ m → wt c n ≤ wt c m
  | 0, h => by obtain rfl : n = 0 := by omega
               exact Nat.le_refl _
  | m + 1, h => by
    by_cases e : n = m + 1
    · rw [e]; exact Nat.le_refl _
    · have := wt_up (c := c) m (show n ≤ m by omega)
      rw [wt]; split <;> omega
theorem wt_next {c : Nat → Nat} {n : Nat} (h : c n ≠ 0) : wt c (n + 1) = wt c n + 1 := by rw [wt, if_neg h]
theorem hurt3_far (c d : Nat → Nat) : 3 ≤ wt (fun i => c i ^^^ hurt3 c d 3 i) 15 := by
  have e0 : c 0 ^^^ hurt3 c d 3 0 ≠ 0 := by
    have : hurt3 c d 3 0 = c 0 ^^^ (1 + d 0 % 15) := by
      rw [hurt3, upd_ne (by omega), hurt3, upd_ne (by omega), hurt3]; exact upd_at _ _ _
    rw [this, xor_self_l]; omega
  have e4 : c 4 ^^^ hurt3 c d 3 4 ≠ 0 := by
    have : hurt3 c d 3 4 = c 4 ^^^ (1 + d 1 % 15) := by
      rw [hurt3, upd_ne (by omega), hurt3]
      refine (upd_at _ _ _).trans ?_
      rw [hurt3, upd_ne (by omega), hurt3]
    rw [this, xor_self_l]; omega
  have e8 : c 8 ^^^ hurt3 c d 3 8 ≠ 0 := by
    have : hurt3 c d 3 8 = c 8 ^^^ (1 + d 2 % 15) := by
      rw [hurt3]
      refine (upd_at _ _ _).trans ?_
      rw [hurt3, upd_ne (by omega), hurt3, upd_ne (by omega), hurt3]
    rw [this, xor_self_l]; omega
  have h1 : wt (fun i => c i ^^^ hurt3 c d 3 i) 1 = wt (fun i => c i ^^^ hurt3 c d 3 i) 0 + 1 := wt_next e0
  have h2 : wt (fun i => c i ^^^ hurt3 c d 3 i) 5 = wt (fun i => c i ^^^ hurt3 c d 3 i) 4 + 1 := wt_next e4
  have h3 : wt (fun i => c i ^^^ hurt3 c d 3 i) 9 = wt (fun i => c i ^^^ hurt3 c d 3 i) 8 + 1 := wt_next e8
  have u1 := wt_up (c := fun i => c i ^^^ hurt3 c d 3 i) (n := 1) 4 (by omega)
  have u2 := wt_up (c := fun i => c i ^^^ hurt3 c d 3 i) (n := 5) 8 (by omega)
  have u3 := wt_up (c := fun i => c i ^^^ hurt3 c d 3 i) (n := 9) 15 (by omega)
  omega
theorem near_wt {c d : Nat → Nat} (h : Near c d) : wt (fun i => d i ^^^ c i) 15 ≤ 2 := by
  obtain ⟨i, j, e, f, hi, hj, he, hf, rfl⟩ := h
  have h1 := wt_xor (one i e) (one j f) 15
  have h2 := wt_one1 i e 15
  have h3 := wt_one1 j f 15
  have : wt (fun k => upd (upd c i e) j f k ^^^ c k) 15 = wt (fun k => one i e k ^^^ one j f k) 15 := wt_congr 15 fun k _ => by
    unfold upd; rw [Nat.xor_comm, Nat.xor_assoc, xor_self_l]
  omega
theorem dec6_near {c : Nat → Nat} {ys : List Int} (hc : Lt16 c) (h : dec6 (ofN c 15) = some ys) : ∃ d, ys = ofN d 15 ∧ Zero6 d ∧ Near c d := by
  unfold dec6 at h
  rw [if_pos (wok_ofN hc 15)] at h
  split at h
  · cases h
  · rename_i p hp
    injection h with h
    have hcc : Lt16 (co (ofN c 15)) := wok_lt (wok_ofN hc 15)
    obtain ⟨h1, h2⟩ := errsW_sound hcc hp
    obtain ⟨i, j, e, f, hi, hj, he, hf, hn⟩ := h1
    have hag : ∀ k, k < 15 → fixW (co (ofN c 15)) p k = upd (upd c i e) j f k := fun k hk => by
      rw [hn]; unfold upd; rw [co_ofN hk]
    exact ⟨upd (upd c i e) j f, h ▸ ofN_congr hag, h2.congr hag, i, j, e, f, hi, hj, he, hf, rfl⟩
/-- What the decoder finds for a word with three symbols changed: none, or another word of the code within two. -/
def ThreeP (E b : Nat → Nat) (ys : List Int) : Prop := ∃ d, ys = ofN d 15 ∧ Lt16 d ∧ decide (ys = ofN E 15) = false ∧ dist6 ys (ofN b 15) ≤ 2
theorem three_other {E D : Nat → Nat} {ys : List Int} (hE : Lt16 E) (h : dec6 (ofN (hurt3 E D 3) 15) = some ys) : ThreeP E (hurt3 E D 3) ys := by
  have hb := hurt3_lt (d := D) hE 3
  obtain ⟨d, rfl, hz, hn⟩ := dec6_near hb h
  have hd := near_lt hb hn
  have hw := near_wt hn
  refine ⟨d, rfl, hd, ?_, ?_⟩
  · simp only [decide_eq_false_iff_not]
    intro e
    have e2 := ofN_inj e
    have h3 := hurt3_far E D
    have : wt (fun i => d i ^^^ hurt3 E D 3 i) 15 = wt (fun i => E i ^^^ hurt3 E D 3 i) 15 := wt_congr 15 fun i hi => by rw [e2 i hi]
    omega
  · rw [dist6_yes (wok_ofN hd 15) (wok_ofN hb 15)]
    have : wt (fun i => co (ofN d 15) i ^^^ co (ofN (hurt3 E D 3) 15) i) 15 = wt (fun i => d i ^^^ hurt3 E D 3 i) 15 := wt_congr 15 fun i hi => by rw [co_ofN hi, co_ofN hi]
    rw [this]; omega
theorem DecP.no {w w' : World} {e : Ending} (h : DecP none w e w') : ∃ a cap, e = .returned (.tuple #[.slice a 0 cap, .bool false]) ∧ Below w.heap.size w w' := by
  obtain ⟨a, cap, h1, _, _, h4⟩ := h
  exact ⟨a, cap, h1, h4⟩
theorem add_q (a b c : Nat) (w : World) (ha : a < 16) (hb : b < 16) (h : a ^^^ b = c) :
    Calls Tryd.prog 18 #[.int .i64 a, .int .i64 b] w fun e w' => e = .returned (.int .i64 (c : Int)) ∧ w' = w := (add_is a b c w ha hb h).mono fun _ _ ⟨h1, h2⟩ => ⟨h1, h2.symm⟩
set_option maxHeartbeats 2000000 in
theorem walkWordThree (a : Option Addr) (c : Nat) (ds : List Int) (w : World) (hx : Ints .u8 w w.heap.size a ds) (hw : ∀ n ∈ ds, (Lit.int .u8 n).wf = true) (hc : ds.length ≤ c) (hcm : c ≤ maxLen) (hT : Tabs2 w) (hZ : ZerTab w) (hG : GenTab w) :
    Calls Tryd.prog 7 #[.slice a ds.length c] w fun e w' => e = .returned (.bool true) ∧ Below w.heap.size w w' := by
  have hb := isByte_of_wf hw
  have HT := Lib.hid hT
  have HZ := Lib.hid hZ
  have HG := Lib.hid hG
  clear hw hT hZ hG
  by_cases hl : ds.length ≤ 1048576
  · go_enter Tryd.func7, Tryd.ntmps7
    go_wp2_with fail
    refine (drawEncodeWord_any a c ds w hx hb hc hcm).mono ?_
    rintro e w1 ⟨xs, a1, c1, rfl, ⟨l1, l2, l3⟩, i1, b1⟩
    have X1 := Lib.hid i1
    have B1 := Lib.hid b1
    clear hx hb hc hcm i1 b1
    obtain ⟨S, hS⟩ : ∃ S, S = encL xs := ⟨_, rfl⟩
    have HS := Lib.hid hS
    have hSl : S.length ≤ 15 := by rw [hS]; exact encL_small xs
    have z3 : decide (S = S) = true := by simp
    clear hS
    go_wp2_with fail
    refine (encodeWord_any a1 c1 xs w1 X1.out (HT.out.next B1.out) (HG.out.next B1.out)).mono ?_
    rw [← HS.out]
    rintro e w2 ⟨v2, cv2, rfl, r2, o2, b2⟩
    have S2 := Lib.hid (own_of_list o2).ints
    have X2 := Lib.hid (X1.out.next b2)
    have B2 := Lib.hid (Below.next B1.out (Nat.le_refl _) b2)
    have R2 := Lib.hid r2
    clear o2 b2 r2 X1 B1
    have hsp := specEncodeWord_any a1 c1 xs w2 X2.out (by omega)
    rw [← HS.out] at hsp
    have HSP := Lib.hid hsp
    clear hsp
    go_wp2_with fail
    refine HSP.out.mono ?_
    rintro e w3 ⟨v3, n3, cv3, rfl, g3, b3⟩
    obtain rfl : S.length = n3 := g3.len
    have U3 := Lib.hid g3.ints
    have S3 := Lib.hid (S2.out.next b3)
    have X3 := Lib.hid (X2.out.next b3)
    have B3 := Lib.hid (Below.next B2.out (Nat.le_refl _) b3)
    clear g3 b3 S2 X2 B2 HSP
    go_wp2_with fail
    refine (sameInts_any v2 v3 cv2 cv3 w3.heap.size w3.heap.size S S w3 S3.out U3.out (by omega)).mono ?_
    rintro e w4 ⟨rfl, n4, rfl⟩
    have B4 := Lib.hid (below_drewN B3.out n4)
    have S4 : Hid (Ints .i64 (w3.drewN n4) (w3.drewN n4).heap.size v2 S) := S3.out
    have X4 : Hid (Ints .i64 (w3.drewN n4) (w3.drewN n4).heap.size a1 xs) := X3.out
    clear S3 X3 B3 U3
    generalize w3.drewN n4 = w4 at *
    cases hok : wok 11 xs
    · obtain rfl : S = [] := by rw [HS.out, encL_no hok]
      clear hok HS
      go_wp2_with fail
      refine (alive_any w4).mono ?_
      rintro e w8 ⟨rfl, b8⟩
      have B8 := Lib.hid (Below.next B4.out (Nat.le_refl _) b8)
      clear b8
      go_wp2
      go_ret
      exact ⟨rfl, B8.out⟩
    · have hd16 := wok_lt hok
      obtain rfl : S = ofN (enc6 (co xs)) 15 := by rw [HS.out, encL_yes hok]
      have HE16 := Lib.hid (enc6_lt hd16)
      have HEZ := Lib.hid (enc6_zero hd16)
      have HOK := Lib.hid hok
      have H16 := Lib.hid hd16
      rw [ofN_length] at *
      clear hok HS hSl z3 hd16
      have hxl := (wok_parts HOK.out).1
      rw [hxl]
      have IA := Lib.hid (fun o => S4.out.below (below_alloc w4 o))
      have BA := Lib.hid (fun o => below_alloc w4 o)
      have HD0 := Lib.hid (fun i (hi : i < 11) => X4.out.at_ (i := i) (Nat.lt_of_lt_of_eq hi hxl.symm))
      have HC := Lib.hid (fun i (hi : i < 11) => co_el (wok_parts HOK.out).2 (Nat.lt_of_lt_of_eq hi hxl.symm))
      generalize co xs = D at *
      clear hxl l1 l2 l3
      go_wp2_with (at_builtin; refine wpList_appendA (.tmp 25) (.tmp 26) w4.heap.size (some ⟨w4.heap.size, 0, none⟩) v2 0 0 15 cv2 w4.heap.size [] (ofN (enc6 D) 15) rfl rfl rfl rfl (Grow.lit0 _ _ _ _ (Nat.le_refl _)) (IA.out _) (ofN_length _ _) (by omega) (by simp) ?_; intro a5 cap5 w5 hg5 hb5 _; rw [Nat.zero_add, List.nil_append] at hg5; obtain ⟨bb, rfl, hbb⟩ := hg5.addr0 (grow_some hg5 (by rw [ofN_length]; omega)); have W5 := Lib.hid (show WS w4 w5 bb 15 cap5 (hurt3 (enc6 D) D 0) from ⟨hg5, (BA.out _).trans hb5⟩); clear hg5 hb5)
      generalize enc6 D = E at *
      go_loopw [6] (fun i wr => ∃ k : Nat, k ≤ 3 ∧ i = .int .i64 k ∧ WS w4 wr bb 15 cap5 (hurt3 E D k)) (fun i _ => 3 - (intOf i).toNat)
      case atStart => exact ⟨0, by omega, rfl, W5.out⟩
      case round =>
        obtain ⟨k, hk, rfl, hs⟩ := hrel
        clear W5
        by_cases hlt : k < 3
        · have hh := hurt3_lt (d := D) HE16.out k (4 * k)
          obtain ⟨cR, fR⟩ := hs.cell (i := 4 * k) (by omega)
          obtain ⟨b, off, rfl, hb4, cX⟩ := HD0.out k (by omega)
          obtain ⟨eX, hD16⟩ := HC.out k (by omega)
          rw [eX] at cX
          have cX2 := (hs.2.cell hb4).trans cX
          have hst : hurt3 E D (k + 1) = upd (hurt3 E D k) (4 * k) (1 + D k % 15) := rfl
          obtain ⟨t, ht⟩ : ∃ t, t = D k % 15 := ⟨_, rfl⟩
          obtain ⟨q, hq⟩ : ∃ q, q = 4 * k := ⟨_, rfl⟩
          obtain ⟨s, hs1⟩ : ∃ s, s = 1 + t := ⟨_, rfl⟩
          obtain ⟨x, hx⟩ : ∃ x, x = hurt3 E D k q ^^^ s := ⟨_, rfl⟩
          have hset : WS w4 (wr.drew.setCell ⟨bb, q, none⟩ (.int .i64 (x : Int))) bb 15 cap5 (hurt3 E D (k + 1)) := by
            rw [hst, ← ht, ← hq, ← hs1]
            exact WS.set (W := wr.drew) ⟨hs.1.drewN 1, below_drewN hs.2 1⟩ (by omega) hx
          rw [← hq] at cR fR hh
          have HM := Lib.hid (fun W => add_q (hurt3 E D k q) s x W hh (by omega) hx.symm)
          have r1 : (D k : Int).tmod 15 = (t : Int) := by rw [Int.tmod_eq_emod_of_nonneg (by omega)]; omega
          have r2 : IntKind.i64.wrap (4 * (k : Int)) = (q : Int) := by rw [IntKind.wrap_i64]; omega
          have r3 : IntKind.i64.wrap (1 + (t : Int)) = (s : Int) := by rw [IntKind.wrap_i64]; omega
          have hq15 : (q : Int) < 15 := by omega
          have hk11 : (k : Int) < 11 := by omega
          have HSet := Lib.hid hset
          generalize hurt3 E D k q = u at *
          generalize D k = v at *
          clear hs hst hx hset hq hh ht hs1 hD16 eX cX
          go_wp2
          (refine wp_region_still_tail 16 (by kernel_rfl) (by kernel_rfl) ?_
           simp only [List.take_succ_cons, List.take_zero, List.drop_succ_cons, List.drop_zero]
           repeat still_step)
          still_call (HM.out _)
          repeat still_step
          refine wpStill_nil ?_
          change wpList _ _ _ _ _ wr.drew
          have cN2 : wr.drew.cell? ⟨bb, q, none⟩ = some (.int .i64 (u : Int)) := cR
          have fN2 : wr.drew.frozen? ⟨bb, q, none⟩ = false := fR
          clear r1 r2 r3
          generalize wr.drew = wd at *
          go_wp2
          go_roundw
          case rel => exact ⟨k + 1, by omega, by go_num, HSet.out⟩
          case measure => simp [intOf]; omega
        · obtain rfl : k = 3 := by omega
          have G6 := Lib.hid hs.1
          have B6 := Lib.hid (Below.next B4.out (Nat.le_refl _) hs.2)
          have S6 := Lib.hid (S4.out.next hs.2)
          have h7 := decodeWord_any (some ⟨bb, 0, none⟩) cap5 (ofN (hurt3 E D 3) 15) wr hs.1.ints (HT.out.next B6.out) (HZ.out.next B6.out)
          obtain ⟨o, ho⟩ : ∃ o, o = dec6 (ofN (hurt3 E D 3) 15) := ⟨_, rfl⟩
          rw [ofN_length, ← ho] at h7
          have H7 := Lib.hid h7
          have HO := Lib.hid ho
          clear hs h7 ho IA S4 BA HD0 HC X4 B4
          cases o with
          | none =>
            go_wp2_with fail
            refine H7.out.mono ?_
            rintro e w7 hp
            obtain ⟨v8, cv8, rfl, b8⟩ := hp.no
            have B8 := Lib.hid (Below.next B6.out (Nat.le_refl _) b8)
            clear hp b8
            go_wp2
            go_ret
            exact ⟨rfl, B8.out⟩
          | some ys =>
            obtain ⟨d, rfl, hd16, hne, hle⟩ := three_other HE16.out HO.out.symm
            have HLE := Lib.hid hle
            have HNE := Lib.hid hne
            generalize hurt3 E D 3 = bw at *
            clear hle hne HO
            go_wp2_with fail
            refine H7.out.mono ?_
            rintro e w7 hp
            obtain ⟨v8, cv8, rfl, i8, b8⟩ := hp.yes
            have I8 := Lib.hid i8
            have S8 := Lib.hid (S6.out.next b8)
            have G8 := Lib.hid (G6.out.ints.next b8)
            have B8 := Lib.hid (Below.next B6.out (Nat.le_refl _) b8)
            clear hp i8 b8
            have h9 := sameInts_any v8 v2 cv8 cv2 w7.heap.size w7.heap.size (ofN d 15) (ofN E 15) w7 I8.out S8.out (by rw [ofN_length]; omega)
            rw [ofN_length, ofN_length, HNE.out] at h9
            have H9 := Lib.hid h9
            clear h9
            go_wp2_with fail
            refine H9.out.mono ?_
            rintro e w9 ⟨rfl, n9, rfl⟩
            have h10 := wordDistance_any v8 (some ⟨bb, 0, none⟩) cv8 cap5 (ofN d 15) (ofN bw 15) (w7.drewN n9) I8.out G8.out
            rw [ofN_length, ofN_length] at h10
            obtain ⟨z, hz⟩ : ∃ z, z = dist6 (ofN d 15) (ofN bw 15) := ⟨_, rfl⟩
            rw [← hz] at h10
            have hz2 : z ≤ 2 := by rw [hz]; exact HLE.out
            have H10 := Lib.hid h10
            clear h10 hz
            go_wp2_with fail
            refine H10.out.mono ?_
            rintro e w10 ⟨rfl, n10, rfl⟩
            go_wp2
            go_ret
            exact ⟨by simp, below_drewN B8.out (n9 + n10)⟩
  · go_enter Tryd.func7, Tryd.ntmps7
    go_wp2
    go_ret
    exact ⟨rfl, Below.refl _ _⟩
end Go.Proofs.YtkeeijkjemcbcaaDoor
