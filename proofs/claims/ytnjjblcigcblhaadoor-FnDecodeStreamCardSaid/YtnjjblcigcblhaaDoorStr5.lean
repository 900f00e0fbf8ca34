/-
  What the model's step, its test of lists and its EncodeStream answer. Conditions: a list that can be read; bits, where a lemma says so.
-/
import Derived.Test.YtnjjblcigcblhaaDoorStr4
namespace Go.Proofs.YtnjjblcigcblhaaDoor
open Go.RowKit

/-- The model's two bits and its next state: the nearer bit is the state's lower digit. -/
def q1N (s x : Nat) : Nat := op1 (s % 2) (s / 2) x
def q2N (s x : Nat) : Nat := op2 (s / 2) x
def nsN (s x : Nat) : Nat := s % 2 * 2 + x
theorem q1N_lt {s x : Nat} (hs : s < 4) (hx : x < 2) : q1N s x < 2 := op1_lt (by omega) (by omega) hx
theorem q2N_lt {s x : Nat} (hs : s < 4) (hx : x < 2) : q2N s x < 2 := op2_lt (by omega) hx
theorem nsN_lt {s x : Nat} (hx : x < 2) : nsN s x < 4 := by unfold nsN; omega
theorem l7Pair_any (s x : Nat) (w : World) (hs : s < 4) (hx : x < 2) :
    Calls Tryd.prog 38 #[.int .i64 s, .int .i64 x] w fun e w' => e = .returned (.tuple #[.int .i64 (q1N s x : Int), .int .i64 (q2N s x : Int)]) ∧ w = w' := by
  obtain ⟨a, ha⟩ : ∃ a, a = s % 2 := ⟨_, rfl⟩
  obtain ⟨b, hb⟩ : ∃ b, b = s / 2 := ⟨_, rfl⟩
  have ha2 : a < 2 := by omega
  have hb2 : b < 2 := by omega
  have x1 := bit_xor hx ha2
  have l1 := xor_bit hx ha2
  have HE : Hid (q1N s x = (x ^^^ a) ^^^ b ∧ q2N s x = x ^^^ b) := by
    show q1N s x = _ ∧ q2N s x = _
    rw [ha, hb]; exact ⟨rfl, rfl⟩
  generalize x ^^^ a = u at *
  have x2 := bit_xor l1 hb2
  have x3 := bit_xor hx hb2
  have e1 : (s : Int) % 2 = (a : Int) := by omega
  have e2 : (s : Int) / 2 = (b : Int) := by omega
  generalize u ^^^ b = p at *
  generalize x ^^^ b = q at *
  clear ha hb
  go_enter Tryd.func38, Tryd.ntmps38
  go_wp2
  go_ret2
  exact ⟨by rw [HE.out.1, HE.out.2]; rfl, rfl⟩
theorem l7Next_any (s x : Nat) (w : World) (hs : s < 4) (hx : x < 2) :
    Calls Tryd.prog 39 #[.int .i64 s, .int .i64 x] w fun e w' => e = .returned (.int .i64 (nsN s x : Int)) ∧ w = w' := by
  have HE := Lib.hid (show ((s : Int) % 2 * 2 + (x : Int)) = (nsN s x : Int) by unfold nsN; omega)
  go_enter Tryd.func39, Tryd.ntmps39
  go_wp2
  go_ret
  exact ⟨ret_int HE.out, rfl⟩
set_option maxHeartbeats 400000 in
theorem l7Ok_any (a : Option Addr) (c B : Nat) (xs : List Int) (w : World) (hx : Ints .i64 w B a xs) (hl : xs.length ≤ maxLen) :
    Calls Tryd.prog 45 #[.slice a xs.length c] w fun e w' => e = .returned (.bool (codedOk xs)) ∧ w = w' := by
  have HV := Lib.hid (specBitsValid_any a c B xs w hx hl)
  unfold maxLen at hl
  clear hx
  cases hb : bitsOk xs
  · have HE := Lib.hid (show codedOk xs = false by simp [codedOk, hb])
    rw [hb] at HV
    clear hb
    go_enter Tryd.func45, Tryd.ntmps45
    go_wp2_with (go_at_call 37; refine HV.out.mono ?_; rintro e w1 ⟨rfl, rfl⟩)
    go_ret
    exact ⟨ret_bool HE.out.symm, rfl⟩
  · rw [hb] at HV
    rcases Nat.mod_two_eq_zero_or_one xs.length with h3 | h3
    · have hr : ((xs.length : Int) % 2 == 0) = true := by rw [beq_iff_eq]; omega
      have HI := Lib.hid (l1In_any (xs.length : Int) 4 84 w)
      have HE := Lib.hid (show (decide ((4 : Int) ≤ (xs.length : Int)) && decide ((xs.length : Int) ≤ 84)) = codedOk xs by
        rw [codedOk, hb, Bool.eq_iff_iff]; simp [h3]; omega)
      clear hb h3
      go_enter Tryd.func45, Tryd.ntmps45
      go_wp2_with (first
        | (go_at_call 37; refine HV.out.mono ?_; rintro e w1 ⟨rfl, rfl⟩)
        | (go_at_call 51; refine HI.out.mono ?_; rintro e w1 ⟨rfl, rfl⟩))
      go_ret
      exact ⟨ret_bool HE.out, rfl⟩
    · have hr : ((xs.length : Int) % 2 == 0) = false := by rw [beq_eq_false_iff_ne]; omega
      have HE := Lib.hid (codedOk_o h3)
      clear hb h3
      go_enter Tryd.func45, Tryd.ntmps45
      go_wp2_with (go_at_call 37; refine HV.out.mono ?_; rintro e w1 ⟨rfl, rfl⟩)
      go_ret
      exact ⟨ret_bool HE.out.symm, rfl⟩

/-- What a call leaves that returns a new list that may be appended to; it lies somewhere even if it is empty. -/
def NewS (xs : List Int) (w : World) (e : Ending) (w' : World) : Prop := ∃ g n cap, e = .returned (.slice (some ⟨g, 0, none⟩) n cap) ∧ Grow .i64 3 w' w.heap.size (some ⟨g, 0, none⟩) n cap xs ∧ Below w.heap.size w w'
/-- The model's state behind the first k bits. -/
def ssK (l : List Nat) (k : Nat) : Nat := (sFin 0 0 (l.take k)).1 + 2 * (sFin 0 0 (l.take k)).2
theorem ssK_lt {l : List Nat} (h : Bits2 l) (k : Nat) : ssK l k < 4 := by
  have := sFin_lt (l.take k) 0 0 (by omega) (by omega) (h.take k)
  unfold ssK
  omega
theorem ssK_next {l : List Nat} (h : Bits2 l) {k : Nat} (hk : k < l.length) : nsN (ssK l k) (l.getD k 0) = ssK l (k + 1) := by
  have := sFin_lt (l.take k) 0 0 (by omega) (by omega) (h.take k)
  unfold ssK nsN
  rw [take_next hk, sFin_snoc]
  show _ = _ + 2 * _
  omega
theorem cdK_spec {l : List Nat} (h : Bits2 l) {k : Nat} (hk : k < l.length) : cdK l k ++ [(q1N (ssK l k) (l.getD k 0) : Int), q2N (ssK l k) (l.getD k 0)] = cdK l (k + 1) := by
  have := sFin_lt (l.take k) 0 0 (by omega) (by omega) (h.take k)
  unfold cdK
  rw [take_next hk, sEnc_snoc, flat_app]
  simp only [flat, q1N, q2N, ssK]
  rw [show ((sFin 0 0 (l.take k)).1 + 2 * (sFin 0 0 (l.take k)).2) / 2 = (sFin 0 0 (l.take k)).2 by omega, show ((sFin 0 0 (l.take k)).1 + 2 * (sFin 0 0 (l.take k)).2) % 2 = (sFin 0 0 (l.take k)).1 by omega]
theorem addr_some {w' : World} {A a' : Option Addr} {base n cap : Nat} {xs : List Int} (hg : Grow .i64 3 w' base a' n cap xs) (h : a' ≠ none ∨ A = none) (hA : A ≠ none) : ∃ g, a' = some ⟨g, 0, none⟩ := by
  rcases hg.2 with ⟨e, h0⟩ | ⟨g, c, cur, e, _⟩
  · injection e with e1
    rcases h with h | h
    · exact absurd e1 h
    · exact absurd h hA
  · injection e with e1
    exact ⟨g, e1⟩
set_option maxHeartbeats 1000000 in
theorem specEncodeStream_new (a : Option Addr) (c : Nat) (xs : List Int) (w : World) (hx : Ints .i64 w w.heap.size a xs) (hm : xs.length ≤ maxLen) :
    Calls Tryd.prog 14 #[.slice a xs.length c] w (NewS (strOr xs) w) := by
  have HV := Lib.hid (fun o => specBitsValid_any a c w.heap.size xs (w.alloc o) (hx.below (below_new w o)) hm)
  have L0 := Lib.hid (Grow.lit0 .i64 3 w w.heap.size (Nat.le_refl _))
  have B0 := Lib.hid (below_new w (.cells #[] 3))
  unfold maxLen at hm
  cases hb : bitsOk xs
  · have HE := Lib.hid (strOr_no (xs := xs) (by simp [strOk, hb]))
    rw [hb] at HV
    clear hx hb
    go_enter Tryd.func14, Tryd.ntmps14
    go_wp2_with (go_at_call 37; refine (HV.out _).mono ?_; rintro e w1 ⟨rfl, rfl⟩)
    go_ret
    rw [HE.out]
    exact ⟨_, _, _, rfl, L0.out, B0.out⟩
  · rw [hb] at HV
    by_cases hl : 40 < xs.length
    · have HE := Lib.hid (strOr_no (xs := xs) (by simp [strOk]; omega))
      clear hx hb
      go_enter Tryd.func14, Tryd.ntmps14
      go_wp2_with (go_at_call 37; refine (HV.out _).mono ?_; rintro e w1 ⟨rfl, rfl⟩)
      go_ret
      rw [HE.out]
      exact ⟨_, _, _, rfl, L0.out, B0.out⟩
    · have hbits := (bitsOk_parts hb).2
      have HE := Lib.hid (strOr_yes (strOk_mk (by omega) hbits))
      obtain ⟨T, hT⟩ : ∃ T, T = tailed xs := ⟨_, rfl⟩
      have hTl : T.length = xs.length + 2 := by rw [hT, tailed_length]
      have HTB : Hid (Bits2 T) := by rw [hT]; exact tailed_bits hbits
      have HTE := Lib.hid (fun k hk => tailed_el (xs := xs) (k := k) hbits hk)
      rw [← hT] at HTE
      have HTT := Lib.hid (And.intro hT hTl)
      have HX := Lib.hid hx
      clear hx hb hbits hT hTl
      go_enter Tryd.func14, Tryd.ntmps14
      go_wp2_with (go_at_call 37; refine (HV.out _).mono ?_; rintro e w1 ⟨rfl, rfl⟩)
      clear HV
      go_loopw [3, 4, 5] (fun s st i wr => ∃ (k n g cap : Nat), (k ≤ xs.length + 2 ∧ n = 2 * k) ∧ i = .int .i64 (k : Nat) ∧ st = .int .i64 (ssK T k : Nat) ∧ s = .slice (some ⟨g, 0, none⟩) n cap ∧ Grow .i64 3 wr w.heap.size (some ⟨g, 0, none⟩) n cap (cdK T k) ∧ Below w.heap.size w wr) (fun _ _ i _ => xs.length + 2 - (intOf i).toNat)
      case atStart => exact ⟨0, 0, w.heap.size, 0, ⟨by omega, rfl⟩, rfl, rfl, rfl, L0.out, B0.out⟩
      case round =>
        obtain ⟨k, n, g, cap, ⟨hk, hn⟩, rfl, rfl, rfl, hgr, hbel⟩ := hrel
        have HG := Lib.hid hgr
        have HB := Lib.hid hbel
        have HNN := Lib.hid hn
        have hn84 : n ≤ 84 := by omega
        have hsz : w.heap.size ≤ wr.heap.size := hbel.size
        clear hgr hbel hn
        by_cases hlt : k < xs.length + 2
        · have hx2 := bit_at HTB.out k
          have hs4 := ssK_lt HTB.out k
          have HN := Lib.hid (And.intro (ssK_next HTB.out (k := k) (by rw [HTT.out.2]; exact hlt)) (cdK_spec HTB.out (k := k) (by rw [HTT.out.2]; exact hlt)))
          have hel := HTE.out k (by simp; omega)
          generalize T.getD k 0 = x at *
          generalize ssK T k = s at *
          have HP := Lib.hid (fun W => l7Pair_any s x W hs4 hx2)
          have HQ := Lib.hid (fun W => l7Next_any s x W hs4 hx2)
          have hp2 := q1N_lt hs4 hx2
          have hq2 := q2N_lt hs4 hx2
          have hn4 := nsN_lt (s := s) hx2
          generalize q1N s x = p at *
          generalize q2N s x = q at *
          obtain ⟨y, hy⟩ : ∃ y, y = nsN s x := ⟨_, rfl⟩
          rw [← hy] at HN HQ hn4
          have HI := Lib.hid (ints_pair (heap_alloc_last wr (.cells #[.int .i64 p, .int .i64 q] 3)))
          have G1 := Lib.hid (HG.out.alloc (.cells #[.int .i64 p, .int .i64 q] 3))
          have B1 := Lib.hid (HB.out.alloc hsz (.cells #[.int .i64 p, .int .i64 q] 3))
          clear hy
          by_cases hlx : k < xs.length
          · have hc := (HX.out.below HB.out).at_ hlx
            have he : el (xs ++ [0, 0]) k = el xs k := by simp [el, List.getElem?_append_left hlx]
            rw [← he, hel] at hc
            obtain ⟨b, off, rfl, _, hc⟩ := hc
            clear hel he
            go_wp2_with (first
              | (go_at_call 38; refine (HP.out _).mono ?_; rintro e w' ⟨rfl, rfl⟩)
              | (go_at_call 39; refine (HQ.out _).mono ?_; rintro e w' ⟨rfl, rfl⟩)
              | (at_builtin; refine wpList_appendA (.tmp 40) (.tmp 43) w.heap.size (some ⟨g, 0, none⟩) (some ⟨wr.heap.size, 0, none⟩) n cap 2 2 _ (cdK T k) [(p : Int), q] rfl rfl rfl rfl G1.out HI.out rfl (by omega) (by simp; omega) ?_; intro a3 cap3 w3 hg3 hb3 ha3; rw [HN.out.2] at hg3; obtain ⟨g3, rfl⟩ := addr_some hg3 ha3 (by simp); have HG3 := Lib.hid hg3; have HB3 := Lib.hid (B1.out.trans hb3); clear hg3 hb3 ha3))
            go_roundw
            case rel => exact ⟨k + 1, n + 2, g3, cap3, ⟨by omega, by have := HNN.out; omega⟩, by go_num, by rw [← HN.out.1], rfl, HG3.out, HB3.out⟩
            case measure => simp [intOf]; omega
          · have hx0 : x = 0 := by
              have he : el (xs ++ [0, 0]) k = 0 := by
                obtain rfl | rfl : k = xs.length ∨ k = xs.length + 1 := by omega
                · simp [el]
                · simp [el]
              rw [he] at hel
              omega
            subst hx0
            clear hel
            go_wp2_with (first
              | (go_at_call 38; refine (HP.out _).mono ?_; rintro e w' ⟨rfl, rfl⟩)
              | (go_at_call 39; refine (HQ.out _).mono ?_; rintro e w' ⟨rfl, rfl⟩)
              | (at_builtin; refine wpList_appendA (.tmp 40) (.tmp 43) w.heap.size (some ⟨g, 0, none⟩) (some ⟨wr.heap.size, 0, none⟩) n cap 2 2 _ (cdK T k) [(p : Int), q] rfl rfl rfl rfl G1.out HI.out rfl (by omega) (by simp; omega) ?_; intro a3 cap3 w3 hg3 hb3 ha3; rw [HN.out.2] at hg3; obtain ⟨g3, rfl⟩ := addr_some hg3 ha3 (by simp); have HG3 := Lib.hid hg3; have HB3 := Lib.hid (B1.out.trans hb3); clear hg3 hb3 ha3))
            go_roundw
            case rel => exact ⟨k + 1, n + 2, g3, cap3, ⟨by omega, by have := HNN.out; omega⟩, by go_num, by rw [← HN.out.1], rfl, HG3.out, HB3.out⟩
            case measure => simp [intOf]; omega
        · have HKK : Hid (k = xs.length + 2) := by show k = _; omega
          go_wp2
          go_ret
          have hg := HG.out
          rw [HKK.out, HTT.out.1, cdK_all] at hg
          rw [HE.out]
          exact ⟨_, _, _, rfl, hg, HB.out⟩
end Go.Proofs.YtnjjblcigcblhaaDoor
