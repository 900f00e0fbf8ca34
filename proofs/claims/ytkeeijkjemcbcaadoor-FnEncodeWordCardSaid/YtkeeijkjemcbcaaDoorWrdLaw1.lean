/-
  The laws of the symbol code that begin with a code word, walked: a word turned, one symbol and three symbols changed: they return true for every code, and write into nothing that was there. Condition: the program's four tables lie in their variables.
-/
import Derived.Test.YtkeeijkjemcbcaaDoorWrdDraw
import Derived.Test.YtkeeijkjemcbcaaDoorFldLaw1
namespace Go.Proofs.YtkeeijkjemcbcaaDoor
open Go.RowKit

theorem encL_small (xs : List Int) : (encL xs).length ≤ 15 := by
  unfold encL; split
  · rw [ofN_length]; omega
  · simp
theorem Ints.cutT {k : IntKind} {w : World} {B m : Nat} {a : Option Addr} {xs : List Int} (h : Ints k w B a xs) : Ints k w B a (xs.take m) := fun hne => by
  have hne' : xs ≠ [] := by intro e; subst e; simp at hne
  obtain ⟨b', off', e, hb, hc⟩ := h hne'
  refine ⟨b', off', e, hb, fun i hi => ?_⟩
  rw [List.length_take] at hi
  rw [hc i (by omega)]
  simp [el, show i < m by omega]
theorem ofN_take (c : Nat → Nat) {m n : Nat} (h : m ≤ n) : (ofN c n).take m = ofN c m := by
  refine list_el (by simp [ofN_length]; omega) fun i hi => ?_
  have hi2 : i < m := by simp [ofN_length] at hi; omega
  rw [ofN_el hi2, ← ofN_el (c := c) (show i < n by omega)]
  simp [el, hi2]
theorem ofN_turn (c : Nat → Nat) : [((c 14 : Nat) : Int)] ++ ofN c 14 = ofN (turn6 c) 15 := by
  refine list_el (by simp [ofN_length]) fun i hi => ?_
  have hi15 : i < 15 := by simp [ofN_length] at hi; omega
  rw [ofN_el hi15]
  unfold turn6
  by_cases h : i = 0
  · subst h; rw [if_pos rfl]; rfl
  · rw [if_neg h, ← ofN_el (c := c) (show i - 1 < 14 by omega)]
    simp [el, List.getElem?_cons, h]
theorem syn_zero {d : Nat → Nat} (hd : Lt16 d) (hz : Zero6 d) : synL6 (ofN d 15) = [((0 : Nat) : Int), ((0 : Nat) : Int), ((0 : Nat) : Int), ((0 : Nat) : Int)] := by
  rw [synL6_ofN hd, hz 0 (by omega), hz 1 (by omega), hz 2 (by omega), hz 3 (by omega)]
theorem turn6_lt {c : Nat → Nat} (hc : Lt16 c) : Lt16 (turn6 c) := fun i => by unfold turn6; split; exact hc 14; exact hc _
theorem dec6_ofN {c d : Nat → Nat} (hc : Lt16 c) (hn : Near c d) (hz : Zero6 d) : dec6 (ofN c 15) = some (ofN d 15) := by
  obtain ⟨i, j, e, f, hi, hj, he, hf, rfl⟩ := hn
  have hag : ∀ k, k < 15 → upd (upd (co (ofN c 15)) i e) j f k = upd (upd c i e) j f k := fun k hk => by
    unfold upd; rw [co_ofN hk]
  rw [dec6_found (wok_ofN hc 15) ⟨i, j, e, f, hi, hj, he, hf, rfl⟩ (hz.congr fun k hk => (hag k hk).symm), ofN_congr hag]
theorem DecP.yes {c : Nat → Nat} {w w' : World} {e : Ending} (h : DecP (some (ofN c 15)) w e w') : ∃ a cap, e = .returned (.tuple #[.slice a 15 cap, .bool true]) ∧ Ints .i64 w' w'.heap.size a (ofN c 15) ∧ Below w.heap.size w w' := by
  obtain ⟨a, cap, h1, _, h3, h4⟩ := h
  have h1' : e = .returned (.tuple #[.slice a (ofN c 15).length cap, .bool true]) := h1
  rw [ofN_length] at h1'
  exact ⟨a, cap, h1', (own_of_list h3).ints, h4⟩
set_option maxHeartbeats 2000000 in
theorem walkWordTurn (a : Option Addr) (c : Nat) (ds : List Int) (w : World) (hx : Ints .u8 w w.heap.size a ds) (hw : ∀ n ∈ ds, (Lit.int .u8 n).wf = true) (hc : ds.length ≤ c) (hcm : c ≤ maxLen) (hT : Tabs2 w) (hZ : ZerTab w) (hG : GenTab w) :
    Calls Tryd.prog 8 #[.slice a ds.length c] w fun e w' => e = .returned (.bool true) ∧ Below w.heap.size w w' := by
  have hb := isByte_of_wf hw
  have HT := Lib.hid hT
  have HZ := Lib.hid hZ
  have HG := Lib.hid hG
  clear hw hT hZ hG
  by_cases hl : ds.length ≤ 1048576
  · go_enter Tryd.func8, Tryd.ntmps8
    go_wp2_with fail
    refine (drawEncodeWord_any a c ds w hx hb hc hcm).mono ?_
    rintro e w1 ⟨xs, a1, c1, rfl, ⟨l1, l2, l3⟩, i1, b1⟩
    have X1 := Lib.hid i1
    have B1 := Lib.hid b1
    clear hx hb hc hcm i1 b1
    obtain ⟨S, hS⟩ : ∃ S, S = encL xs := ⟨_, rfl⟩
    have HS := Lib.hid hS
    have hSl : S.length ≤ 15 := by rw [hS]; exact encL_small xs
    have z3 : decide (S = S) = true := by simp
    clear hS
    go_wp2_with fail
    refine (encodeWord_any a1 c1 xs w1 X1.out (HT.out.next B1.out) (HG.out.next B1.out)).mono ?_
    rw [← HS.out]
    rintro e w2 ⟨v2, cv2, rfl, r2, o2, b2⟩
    have S2 := Lib.hid (own_of_list o2).ints
    have X2 := Lib.hid (X1.out.next b2)
    have B2 := Lib.hid (Below.next B1.out (Nat.le_refl _) b2)
    have R2 := Lib.hid r2
    clear o2 b2 r2 X1 B1
    have hsp := specEncodeWord_any a1 c1 xs w2 X2.out (by omega)
    rw [← HS.out] at hsp
    have HSP := Lib.hid hsp
    clear hsp
    go_wp2_with fail
    refine HSP.out.mono ?_
    rintro e w3 ⟨v3, n3, cv3, rfl, g3, b3⟩
    obtain rfl : S.length = n3 := g3.len
    have U3 := Lib.hid g3.ints
    have S3 := Lib.hid (S2.out.next b3)
    have X3 := Lib.hid (X2.out.next b3)
    have B3 := Lib.hid (Below.next B2.out (Nat.le_refl _) b3)
    clear g3 b3 S2 X2 B2 HSP
    go_wp2_with fail
    refine (sameInts_any v2 v3 cv2 cv3 w3.heap.size w3.heap.size S S w3 S3.out U3.out (by omega)).mono ?_
    rintro e w4 ⟨rfl, n4, rfl⟩
    have B4 := Lib.hid (below_drewN B3.out n4)
    have S4 : Hid (Ints .i64 (w3.drewN n4) (w3.drewN n4).heap.size v2 S) := S3.out
    have X4 : Hid (Ints .i64 (w3.drewN n4) (w3.drewN n4).heap.size a1 xs) := X3.out
    clear S3 X3 B3 U3
    generalize w3.drewN n4 = w4 at *
    cases hok : wok 11 xs
    · obtain rfl : S = [] := by rw [HS.out, encL_no hok]
      clear hok HS
      go_wp2_with fail
      refine (alive_any w4).mono ?_
      rintro e w8 ⟨rfl, b8⟩
      have B8 := Lib.hid (Below.next B4.out (Nat.le_refl _) b8)
      clear b8
      go_wp2
      go_ret
      exact ⟨rfl, B8.out⟩
    · have hd16 := wok_lt hok
      obtain rfl : S = ofN (enc6 (co xs)) 15 := by rw [HS.out, encL_yes hok]
      have HE16 := Lib.hid (enc6_lt hd16)
      have HEZ := Lib.hid (enc6_zero hd16)
      have HOK := Lib.hid hok
      have H16 := Lib.hid hd16
      rw [ofN_length] at *
      clear hok HS hSl z3 hd16
      obtain ⟨b, off, rfl, hb, hc14⟩ := S4.out.at_ (i := 14) (by rw [ofN_length]; omega)
      rw [ofN_el (show 14 < 15 by omega)] at hc14
      have hcap : 15 ≤ cv2 := R2.out.1
      have hcap14 : (14 : Int) ≤ (cv2 : Int) := by omega
      have I4 : Hid (Ints .i64 w4 w4.heap.size (some ⟨b, off, none⟩) (ofN (enc6 (co xs)) 14)) := by
        have := S4.out.cutT (m := 14)
        rwa [ofN_take _ (by omega)] at this
      have HTurn := Lib.hid (ofN_turn (enc6 (co xs)))
      have HSyn := Lib.hid (syn_zero (turn6_lt HE16.out) (turn6_zero HE16.out HEZ.out))
      generalize enc6 (co xs) 14 = g at *
      have IA := Lib.hid (fun o => I4.out.below (below_alloc w4 o))
      clear S4
      go_wp2
      go_region_law (refine step_appendC (.tmp 25) (.tmp 27) w4.heap.size (some ⟨w4.heap.size, 0, none⟩) (some ⟨b, off, none⟩) 1 1 14 cv2 w4.heap.size [(g : Int)] (ofN (enc6 (co xs)) 14) rfl rfl rfl rfl (Grow.lit1 w4.drew w4.heap.size g (Nat.le_refl _)) (IA.out _) (ofN_length _ _) (by omega) (by simp) ?_; intro a5 cap5 w5 hg5 hb5; rw [HTurn.out] at hg5; have G5 := Lib.hid hg5; have B5 : Hid (Below w4.heap.size w4.drew w5) := (Below.alloc (Below.refl w4.heap.size w4.drew) (Nat.le_refl _) _).trans hb5; clear hg5 hb5)
      all_goals
        have B6 := Lib.hid (Below.next B4.out (Nat.le_refl _) ((Below.refl w4.heap.size w4).drew.trans B5.out))
        have h6 := wordSyndromes_any a5 cap5 (ofN (turn6 (enc6 (co xs))) 15) w5 G5.out.ints (HT.out.next B6.out) (HZ.out.next B6.out)
        rw [ofN_length] at h6
        unfold SynPost at h6
        rw [HSyn.out] at h6
        have H6 := Lib.hid h6
        clear h6
        go_wp2_with fail
        refine H6.out.mono ?_
        rintro e w7 ⟨v7, cv7, rfl, _, o7, b7⟩
        have S7 := Lib.hid (own_of_list o7).ints
        have B7 := Lib.hid (Below.next B6.out (Nat.le_refl _) b7)
        clear o7 b7
        go_wp2_with fail
        refine (sameInts_any v7 (some ⟨w7.heap.size, 0, none⟩) cv7 4 w7.heap.size (w7.alloc (.cells #[.int .i64 ((0 : Nat) : Int), .int .i64 ((0 : Nat) : Int), .int .i64 ((0 : Nat) : Int), .int .i64 ((0 : Nat) : Int)] 3)).heap.size [((0 : Nat) : Int), ((0 : Nat) : Int), ((0 : Nat) : Int), ((0 : Nat) : Int)] [((0 : Nat) : Int), ((0 : Nat) : Int), ((0 : Nat) : Int), ((0 : Nat) : Int)] _ (S7.out.below (below_alloc w7 _)) (Grow.lit4 w7 w7.heap.size 0 0 0 0 (Nat.le_refl _)).ints (by simp)).mono ?_
        rintro e w8 ⟨rfl, n8, rfl⟩
        go_wp2
        go_ret
        exact ⟨by simp, below_drewN (B7.out.alloc B7.out.size _) n8⟩
  · go_enter Tryd.func8, Tryd.ntmps8
    go_wp2
    go_ret
    exact ⟨rfl, Below.refl _ _⟩
set_option maxHeartbeats 2000000 in
theorem walkWordOne (a : Option Addr) (c : Nat) (ds : List Int) (a' : Option Addr) (c' : Nat) (es : List Int) (w : World)
    (hx : Ints .u8 w w.heap.size a ds) (hw : ∀ n ∈ ds, (Lit.int .u8 n).wf = true) (hc : ds.length ≤ c) (hcm : c ≤ maxLen)
    (_hy : Ints .u8 w w.heap.size a' es) (_hw' : ∀ n ∈ es, (Lit.int .u8 n).wf = true) (_hc' : es.length ≤ c') (_hcm' : c' ≤ maxLen) (hT : Tabs2 w) (hZ : ZerTab w) (hG : GenTab w) :
    Calls Tryd.prog 9 #[.slice a ds.length c, .slice a' es.length c'] w fun e w' => e = .returned (.bool true) ∧ Below w.heap.size w w' := by
  have hb := isByte_of_wf hw
  clear _hy _hw' _hc' _hcm'
  have HT := Lib.hid hT
  have HZ := Lib.hid hZ
  have HG := Lib.hid hG
  clear hw hT hZ hG
  by_cases hl : ds.length ≤ 1048576
  · by_cases hl' : es.length ≤ 1048576
    · go_enter Tryd.func9, Tryd.ntmps9
      go_wp2_with fail
      refine (drawEncodeWord_any a c ds w hx hb hc hcm).mono ?_
      rintro e w1 ⟨xs, a1, c1, rfl, ⟨l1, l2, l3⟩, i1, b1⟩
      have X1 := Lib.hid i1
      have B1 := Lib.hid b1
      clear hx hb hc hcm i1 b1
      obtain ⟨S, hS⟩ : ∃ S, S = encL xs := ⟨_, rfl⟩
      have HS := Lib.hid hS
      have hSl : S.length ≤ 15 := by rw [hS]; exact encL_small xs
      have z3 : decide (S = S) = true := by simp
      clear hS
      go_wp2_with fail
      refine (encodeWord_any a1 c1 xs w1 X1.out (HT.out.next B1.out) (HG.out.next B1.out)).mono ?_
      rw [← HS.out]
      rintro e w2 ⟨v2, cv2, rfl, r2, o2, b2⟩
      have S2 := Lib.hid (own_of_list o2).ints
      have X2 := Lib.hid (X1.out.next b2)
      have B2 := Lib.hid (Below.next B1.out (Nat.le_refl _) b2)
      have R2 := Lib.hid r2
      clear o2 b2 r2 X1 B1
      have hsp := specEncodeWord_any a1 c1 xs w2 X2.out (by omega)
      rw [← HS.out] at hsp
      have HSP := Lib.hid hsp
      clear hsp
      go_wp2_with fail
      refine HSP.out.mono ?_
      rintro e w3 ⟨v3, n3, cv3, rfl, g3, b3⟩
      obtain rfl : S.length = n3 := g3.len
      have U3 := Lib.hid g3.ints
      have S3 := Lib.hid (S2.out.next b3)
      have X3 := Lib.hid (X2.out.next b3)
      have B3 := Lib.hid (Below.next B2.out (Nat.le_refl _) b3)
      clear g3 b3 S2 X2 B2 HSP
      go_wp2_with fail
      refine (sameInts_any v2 v3 cv2 cv3 w3.heap.size w3.heap.size S S w3 S3.out U3.out (by omega)).mono ?_
      rintro e w4 ⟨rfl, n4, rfl⟩
      have B4 := Lib.hid (below_drewN B3.out n4)
      have S4 : Hid (Ints .i64 (w3.drewN n4) (w3.drewN n4).heap.size v2 S) := S3.out
      have X4 : Hid (Ints .i64 (w3.drewN n4) (w3.drewN n4).heap.size a1 xs) := X3.out
      clear S3 X3 B3 U3
      generalize w3.drewN n4 = w4 at *
      cases hok : wok 11 xs
      · obtain rfl : S = [] := by rw [HS.out, encL_no hok]
        clear hok HS
        go_wp2_with fail
        refine (alive_any w4).mono ?_
        rintro e w8 ⟨rfl, b8⟩
        have B8 := Lib.hid (Below.next B4.out (Nat.le_refl _) b8)
        clear b8
        go_wp2
        go_ret
        exact ⟨rfl, B8.out⟩
      · have hd16 := wok_lt hok
        obtain rfl : S = ofN (enc6 (co xs)) 15 := by rw [HS.out, encL_yes hok]
        have HE16 := Lib.hid (enc6_lt hd16)
        have HEZ := Lib.hid (enc6_zero hd16)
        have HOK := Lib.hid hok
        have H16 := Lib.hid hd16
        rw [ofN_length] at *
        clear hok HS hSl z3 hd16
        have IA := Lib.hid (fun o => S4.out.below (below_alloc w4 o))
        have BA := Lib.hid (fun o => below_alloc w4 o)
        obtain ⟨k, hk⟩ : ∃ k, k = es.length % 15 := ⟨_, rfl⟩
        obtain ⟨t, ht⟩ : ∃ t, t = es.length / 15 % 15 := ⟨_, rfl⟩
        have hk15 : k < 15 := by omega
        have ht15 : t < 15 := by omega
        have hg16 := HE16.out k
        obtain ⟨g, hg⟩ : ∃ g, g = enc6 (co xs) k := ⟨_, rfl⟩
        rw [← hg] at hg16
        obtain ⟨x, hx⟩ : ∃ x, x = (g + 1 + t) % 16 := ⟨_, rfl⟩
        have hx16 : x < 16 := by omega
        have r1 : (es.length : Int) % 15 = (k : Int) := by omega
        have r2 : (es.length : Int) / 15 % 15 = (t : Int) := by omega
        have r3 : ((g : Int) + 1 + (t : Int)) % 16 = (x : Int) := by omega
        have hset : (ofN (enc6 (co xs)) 15).set k (x : Int) = ofN (upd (enc6 (co xs)) k (g ^^^ x)) 15 := by
          rw [← ofN_set _ hk15, ← hg, xor_self_l]
        have HD := Lib.hid (dec6_ofN (upd_lt (m := k) HE16.out (xor_lt hg16 hx16)) (near_back (near_one hk15 (xor_lt hg16 hx16))) HEZ.out)
        have HSet := Lib.hid hset
        have HGk := Lib.hid hg
        clear hset hg hk ht hx hl hl'
        go_wp2_with (at_builtin; refine wpList_appendA (.tmp 32) (.tmp 33) w4.heap.size (some ⟨w4.heap.size, 0, none⟩) v2 0 0 15 cv2 w4.heap.size [] (ofN (enc6 (co xs)) 15) rfl rfl rfl rfl (Grow.lit0 _ _ _ _ (Nat.le_refl _)) (IA.out _) (ofN_length _ _) (by omega) (by simp) ?_; intro a5 cap5 w5 hg5 hb5 _; rw [Nat.zero_add, List.nil_append] at hg5; obtain ⟨bb, rfl, hbb⟩ := hg5.addr0 (grow_some hg5 (by rw [ofN_length]; omega)); have hB5 := (BA.out _).trans hb5; obtain ⟨k5, f5⟩ := grow_ofN_cell hg5 hk15; rw [← HGk.out] at k5; have S5 := Lib.hid (S4.out.below hB5); have G6 : Hid (Grow .i64 3 (w5.setCell ⟨bb, k, none⟩ (.int .i64 (x : Int))) w4.heap.size (some ⟨bb, 0, none⟩) 15 cap5 ((ofN (enc6 (co xs)) 15).set k (x : Int))) := hg5.set k x; have B6 : Hid (Below w4.heap.size w4 (w5.setCell ⟨bb, k, none⟩ (.int .i64 (x : Int)))) := hB5.setCell (by exact hbb) _; have S6 : Hid (Ints .i64 (w5.setCell ⟨bb, k, none⟩ (.int .i64 (x : Int))) w4.heap.size v2 (ofN (enc6 (co xs)) 15)) := S4.out.below B6.out; clear hg5 hb5 hB5)
        rw [HSet.out] at G6
        have B7 := Lib.hid (Below.next B4.out (Nat.le_refl _) B6.out)
        have h7 := decodeWord_any (some ⟨bb, 0, none⟩) cap5 (ofN (upd (enc6 (co xs)) k (g ^^^ x)) 15) _ G6.out.ints (HT.out.next B7.out) (HZ.out.next B7.out)
        rw [ofN_length, HD.out] at h7
        have H7 := Lib.hid h7
        have S7 := Lib.hid (S6.out.more B6.out.size)
        clear h7 G6 r1 r2 r3 k5 f5 B6 S5 S6 HD HSet HGk IA BA B4 S4 X4
        generalize w5.setCell ⟨bb, k, none⟩ (.int .i64 (x : Int)) = w6 at *
        refine H7.out.mono ?_
        rintro e w7 hp
        obtain ⟨v8, cv8, rfl, i8, b8⟩ := hp.yes
        have I8 := Lib.hid i8
        have S8 := Lib.hid (S7.out.next b8)
        have B8 := Lib.hid (Below.next B7.out (Nat.le_refl _) b8)
        clear hp i8 b8
        have h9 := sameInts_any v8 v2 cv8 cv2 w7.heap.size w7.heap.size (ofN (enc6 (co xs)) 15) (ofN (enc6 (co xs)) 15) w7 I8.out S8.out (by rw [ofN_length]; omega)
        rw [ofN_length] at h9
        have H9 := Lib.hid h9
        clear h9
        go_wp2_with fail
        refine H9.out.mono ?_
        rintro e w9 ⟨rfl, n9, rfl⟩
        go_wp2
        go_ret
        exact ⟨by simp, below_drewN B8.out n9⟩
    · go_enter Tryd.func9, Tryd.ntmps9
      go_wp2
      go_ret
      exact ⟨rfl, Below.refl _ _⟩
  · go_enter Tryd.func9, Tryd.ntmps9
    go_wp2
    go_ret
    exact ⟨rfl, Below.refl _ _⟩
end Go.Proofs.YtkeeijkjemcbcaaDoor
