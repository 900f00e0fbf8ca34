/-
  The best slots, and their model. Condition: a table that can be read.
-/
import Derived.Test.YtibgpgifdjefnaaDoorSk6
namespace Go.Proofs.YtibgpgifdjefnaaDoor
open Go.RowKit

/-- The best slots of a table. -/
def bsN (R : List (List Bool)) : List Nat := (bs (cf R) R.length).getD []
def bsL (R : List (List Bool)) : List Int := if tbB R && decide (R.length ≤ 7) then iL (bsN R) else []
theorem bsL_no {R : List (List Bool)} (h : (tbB R && decide (R.length ≤ 7)) = false) : bsL R = [] := by simp [bsL, h]
theorem bsL_yes {R : List (List Bool)} (h : (tbB R && decide (R.length ≤ 7)) = true) : bsL R = iL (bsN R) := by simp [bsL, h]
theorem bsN_some (R : List (List Bool)) : bs (cf R) R.length = some (bsN R) := by
  obtain ⟨s, M, h, _⟩ := bs_facts (cf R) R.length
  unfold bsN; rw [h]; rfl
set_option maxRecDepth 10000 in
theorem SR.start (w : World) (cv : Value) (few : Nat) (v : Int) (hv : v = (few : Int)) : SR (w.alloc (.cells #[cv, .int .u16 0, .int .u16 0, .int .u16 0, .int .u16 0, .int .u16 0, .int .u16 0, .int .u16 0, .int .u16 0, .int .u16 0, .int .u16 0, .slice none 0 0, .slice none 0 0, .int .i64 v] 48)) w.heap.size cv (tkN []) (.slice none 0 0) (.slice none 0 0) few := by
  subst hv
  exact ⟨_, heap_alloc_last _ _, rfl, fun i hi => by
    match i, hi with
    | 0, _ | 1, _ | 2, _ | 3, _ | 4, _ | 5, _ | 6, _ | 7, _ | 8, _ | 9, _ | 10, _ | 11, _ | 12, _ | 13, _ => rfl
    | (n + 14), h => exact absurd h (by omega)⟩
set_option maxRecDepth 10000 in
theorem SS.start (w : World) (cv : Value) (few : Nat) (v : Int) (hv : v = (few : Int)) : SS w (w.alloc (.cells #[cv, .int .u16 0, .int .u16 0, .int .u16 0, .int .u16 0, .int .u16 0, .int .u16 0, .int .u16 0, .int .u16 0, .int .u16 0, .int .u16 0, .slice none 0 0, .slice none 0 0, .int .i64 v] 48)) w.heap.size cv (tkN []) none 0 [] none 0 (few, []) where
  row := SR.start w cv few v hv
  sl := Grow.nil _ _ _ _
  be := Grow.nil _ _ _ _
  ne := fun g e => by (cases e)
  bl := (Below.refl _ _).alloc (Nat.le_refl _) _
set_option maxRecDepth 10000 in
set_option maxHeartbeats 2000000 in
theorem bestSlots_any (a : Option Addr) (c : Nat) (R : List (List Bool)) (w : World) (hx : TbL w w.heap.size a R) :
    Calls Tryd.prog 8 #[.slice a R.length c] w (ListPostC (bsL R) w) := by
  have HC := Lib.hid (conflictSets_any a c R w hx)
  clear hx
  cases htb : tbB R
  · have HT := Lib.hid htb
    rw [bsL_no (by rw [htb]; rfl)]
    clear htb
    go_enter Tryd.func8, Tryd.ntmps8
    go_wp2_with fail
    refine HC.out.mono ?_
    rintro e w1 ⟨a1, n1, c1, rfl, hb, _⟩
    rw [HT.out]
    have HB := Lib.hid hb
    clear hb
    go_wp2
    go_ret
    exact listPostC_nil HB.out
  · have HT := Lib.hid htb
    by_cases h7 : R.length ≤ 7
    · rw [bsL_yes (by rw [htb]; simp [h7])]
      have HE := Lib.hid (exS_bs (bsN_some R))
      clear htb
      go_enter Tryd.func8, Tryd.ntmps8
      go_wp2_with fail
      refine HC.out.mono ?_
      rintro e w1 ⟨a1, n1, c1, rfl, hb, hi⟩
      obtain ⟨rfl, hi2⟩ := hi HT.out
      rw [HT.out]
      have HB := Lib.hid hb
      have HI := Lib.hid hi2
      clear hb hi hi2
      have g7 : ¬ (7 : Int) < (R.length : Int) := by omega
      have S0 := Lib.hid (SS.start w1 (.slice a1 R.length c1) (R.length + 1) ((R.length : Int) + 1) (by omega))
      have HX := Lib.hid (extend_any w1 w1.heap.size a1 c1 R HI.out h7 R.length [] 0 (R.length + 1, []) none 0 none 0 _ S0.out (by simp) (Nat.zero_le _))
      go_wp2_with fail
      refine HX.out.mono ?_
      rintro e w3 ⟨rfl, ad, cap, ab, cb, s3⟩
      have S3 := Lib.hid s3
      have b3 := s3.row.b
      clear s3 HX S0
      rw [HE.out] at b3
      go_wp2
      go_ret
      have hbe := S3.out.be
      rw [HE.out] at hbe
      exact listPostC_grow (hbe.base_le (by have := HB.out.size; omega)) (HB.out.trans (S3.out.bl.mono HB.out.size))
    · rw [bsL_no (by rw [htb]; simp [h7])]
      clear htb
      go_enter Tryd.func8, Tryd.ntmps8
      go_wp2_with fail
      refine HC.out.mono ?_
      rintro e w1 ⟨a1, n1, c1, rfl, hb, hi⟩
      obtain ⟨rfl, _⟩ := hi HT.out
      rw [HT.out]
      have HB := Lib.hid hb
      have g7 : (7 : Int) < (R.length : Int) := by omega
      clear hb hi
      go_wp2
      go_ret
      exact listPostC_nil HB.out
/-- Below: the model's search. -/
def SrP (g : Nat → Nat → Bool) (most r : Nat) (L : List Nat) (w : World) (e : Ending) (w' : World) : Prop :=
  ∃ a c, e = .returned (.slice a ((sx g most r L).getD []).length c) ∧ Ints .i64 w' w'.heap.size a (iL ((sx g most r L).getD [])) ∧ Below w.heap.size w w'
theorem firstC_snoc {α : Type} {p : Nat → Option α} : ∀ {f c : Nat}, firstC p f c = none → firstC p (f + 1) c = p (c + f)
  | 0, c, _ => by
    rw [firstC]
    cases p c
    · rfl
    · rfl
  | f + 1, c, h => by
    rw [firstC] at h ⊢
    cases hp : p c with
    | some x => rw [hp] at h; cases h
    | none =>
      rw [hp] at h
      show firstC p (f + 1) (c + 1) = _
      rw [firstC_snoc h, show c + 1 + f = c + (f + 1) by omega]
theorem firstC_more {α : Type} {p : Nat → Option α} {x : α} : ∀ {f c m : Nat}, firstC p f c = some x → f ≤ m → firstC p m c = some x
  | f + 1, c, m, h, hm => by
    match m, hm with
    | m + 1, hm =>
      rw [firstC] at h ⊢
      cases hp : p c with
      | some y => rw [hp] at h; exact h
      | none =>
        rw [hp] at h
        exact firstC_more h (by omega)
theorem sx_len {g : Nat → Nat → Bool} {M : Nat} : ∀ {r : Nat} {s t : List Nat}, sx g M r s = some t → t.length = s.length + r
  | 0, s, t, h => by
    obtain rfl := Option.some.inj h
    rfl
  | r + 1, s, t, h => by
    obtain ⟨c, _, h2, _⟩ := firstC_some h
    by_cases hf : cfFree g s s.length c s.length = true
    · rw [if_pos hf] at h2
      have := sx_len h2
      rw [List.length_append, List.length_singleton] at this
      omega
    · rw [if_neg hf] at h2; cases h2
set_option maxRecDepth 10000 in
set_option maxHeartbeats 4000000 in
theorem l17Search_any (a : Option Addr) (c : Nat) (R : List (List Bool)) (most : Nat) (hsq : SqTo R R.length) (h10 : R.length ≤ 10) (hm : most ≤ 100) : ∀ (r : Nat) (L : List Nat) (v : Option Addr) (c' : Nat) (w : World), TbL w w.heap.size a R → Ints .i64 w w.heap.size v (iL L) → L.length + r = R.length →
    Calls Tryd.prog 26 #[.slice a R.length c, .slice v L.length c', .int .i64 (most : Int)] w (SrP (cf R) most r L w) := by
  intro r
  induction r with
  | zero =>
    intro L v c' w hx hv hl
    have HV := Lib.hid hv
    have h1 : ((L.length : Int) == (R.length : Int)) = true := by rw [beq_iff_eq]; omega
    clear hx hv
    go_enter Tryd.func26, Tryd.ntmps26
    go_wp2
    go_ret
    exact ⟨_, _, rfl, HV.out, Below.refl _ _⟩
  | succ r ih =>
    intro L v c' w hx hv hl
    have HX := Lib.hid hx
    have HV := Lib.hid hv
    have IH := Lib.hid ih
    have h1 : ((L.length : Int) == (R.length : Int)) = false := by rw [beq_eq_false_iff_ne]; omega
    have hlR : L.length < R.length := by omega
    have HQ := Lib.hid (hsq L.length hlR)
    clear hx hv ih
    go_enter Tryd.func26, Tryd.ntmps26
    go_wp2
    clear h1
    go_loopw [7] (fun i wr => ∃ k : Nat, k ≤ most ∧ i = .int .i64 (k : Int) ∧ firstC (fun c => if cfFree (cf R) L L.length c L.length then sx (cf R) most r (L ++ [c]) else none) k 0 = none ∧ Below w.heap.size w wr) (fun i _ => most - (intOf i).toNat)
    case atStart => exact ⟨0, Nat.zero_le _, rfl, rfl, Below.refl _ _⟩
    case round =>
      obtain ⟨k, hk, rfl, hno, hb⟩ := hrel
      have HN := Lib.hid hno
      have HB := Lib.hid hb
      have hsz := hb.size
      clear hno hb
      by_cases hlt : k < most
      · have HXr := Lib.hid (HX.out.next HB.out)
        have HVr := Lib.hid ((HV.out.below HB.out).more hsz)
        have HS := Lib.hid (firstC_snoc HN.out)
        rw [Nat.zero_add] at HS
        by_cases hf : cfFree (cf R) L L.length k L.length = true
        · have HF := Lib.hid (l17Free_is a v c c' wr.heap.size wr.heap.size R L L.length k true wr HXr.out HVr.out hlR (by rw [HQ.out]; omega) (by omega) hf)
          rw [if_pos hf] at HS
          clear hf
          have HLen := Lib.hid (show (L ++ [k]).length = L.length + 1 by simp)
          have A0 := Lib.hid (alloc_belowX wr (.cells #[] 3))
          have V0 := Lib.hid (HVr.out.below A0.out)
          have X0 := Lib.hid (HXr.out.next A0.out)
          have N0 := Lib.hid (iL_len L)
          have IHc := Lib.hid (fun (v : Option Addr) (c' : Nat) (w : World) (h1 : TbL w w.heap.size a R) (h2 : Ints .i64 w w.heap.size v (iL (L ++ [k]))) => IH.out (L ++ [k]) v c' w h1 h2 (by rw [HLen.out]; omega))
          rw [HLen.out] at IHc
          have hl9 : L.length ≤ 9 := by omega
          cases ho : sx (cf R) most r (L ++ [k]) with
          | none =>
            have HO := Lib.hid ho
            rw [ho] at HS
            have z : ((0 : Int) == (R.length : Int)) = false := by rw [beq_eq_false_iff_ne]; omega
            clear ho
            go_wp2_with (first
              | (go_at_call 33; (with_reducible refine HF.out.mono ?_); rintro e w1 ⟨rfl, rfl⟩)
              | (at_builtin; refine wpList_appendA (.tmp 27) (.tmp 28) wr.heap.size (some ⟨wr.heap.size, 0, none⟩) v 0 0 L.length c' wr.heap.size [] (iL L) rfl rfl rfl rfl (Grow.lit0 _ _ _ _ (Nat.le_refl _)) V0.out N0.out (by omega) (by simp) ?_
                 intro a4 cap4 w4 hg4 hb4 _
                 rw [Nat.zero_add, List.nil_append] at hg4
                 have G4 := Lib.hid hg4
                 have B4 := Lib.hid (A0.out.trans hb4)
                 clear hg4 hb4)
              | (at_builtin; refine wpList_append1 (.tmp 29) (.tmp 31) wr.heap.size a4 L.length cap4 (iL L) ⟨w4.heap.size, 0, none⟩ (k : Int) rfl rfl rfl rfl (G4.out.alloc _) (by simp) (by omega) (by have := B4.out.size; simp; omega) ?_
                 intro a5 cap5 w5 hg5 hb5
                 rw [← iL_app] at hg5
                 have G5 := Lib.hid hg5
                 have B5 := Lib.hid ((B4.out.alloc B4.out.size (.cells #[.int .i64 (k : Int)] 3)).trans hb5)
                 have HI5 := Lib.hid (IHc.out a5 cap5 w5 (HXr.out.next B5.out) hg5.ints)
                 clear hg5 hb5)
              | (go_at_call 26; (with_reducible refine HI5.out.mono ?_); rintro e w6 hp6
                 obtain ⟨a6, c6, rfl, i6, b6⟩ := hp6
                 have I6 := Lib.hid i6
                 have B6 := Lib.hid (HB.out.trans ((B5.out.trans (b6.mono B5.out.size)).mono hsz))
                 clear i6 b6
                 simp only [HO.out, Option.getD_none, List.length_nil] at I6 ⊢))
            go_roundw
            case rel => exact ⟨k + 1, by omega, by go_num, HS.out, B6.out⟩
            case measure => simp [intOf]; omega
          | some T =>
            have HO := Lib.hid ho
            rw [ho] at HS
            have hTl := sx_len ho
            have z : ((T.length : Int) == (R.length : Int)) = true := by rw [beq_iff_eq]; rw [List.length_append, List.length_singleton] at hTl; omega
            have HE := Lib.hid (show sx (cf R) most (r + 1) L = some T from firstC_more HS.out (by omega))
            clear ho hTl
            go_wp2_with (first
              | (go_at_call 33; (with_reducible refine HF.out.mono ?_); rintro e w1 ⟨rfl, rfl⟩)
              | (at_builtin; refine wpList_appendA (.tmp 27) (.tmp 28) wr.heap.size (some ⟨wr.heap.size, 0, none⟩) v 0 0 L.length c' wr.heap.size [] (iL L) rfl rfl rfl rfl (Grow.lit0 _ _ _ _ (Nat.le_refl _)) V0.out N0.out (by omega) (by simp) ?_
                 intro a4 cap4 w4 hg4 hb4 _
                 rw [Nat.zero_add, List.nil_append] at hg4
                 have G4 := Lib.hid hg4
                 have B4 := Lib.hid (A0.out.trans hb4)
                 clear hg4 hb4)
              | (at_builtin; refine wpList_append1 (.tmp 29) (.tmp 31) wr.heap.size a4 L.length cap4 (iL L) ⟨w4.heap.size, 0, none⟩ (k : Int) rfl rfl rfl rfl (G4.out.alloc _) (by simp) (by omega) (by have := B4.out.size; simp; omega) ?_
                 intro a5 cap5 w5 hg5 hb5
                 rw [← iL_app] at hg5
                 have G5 := Lib.hid hg5
                 have B5 := Lib.hid ((B4.out.alloc B4.out.size (.cells #[.int .i64 (k : Int)] 3)).trans hb5)
                 have HI5 := Lib.hid (IHc.out a5 cap5 w5 (HXr.out.next B5.out) hg5.ints)
                 clear hg5 hb5)
              | (go_at_call 26; (with_reducible refine HI5.out.mono ?_); rintro e w6 hp6
                 obtain ⟨a6, c6, rfl, i6, b6⟩ := hp6
                 have I6 := Lib.hid i6
                 have B6 := Lib.hid (HB.out.trans ((B5.out.trans (b6.mono B5.out.size)).mono hsz))
                 clear i6 b6
                 simp only [HO.out, Option.getD_some] at I6 ⊢))
            go_ret
            exact ⟨_, _, by rw [HE.out]; rfl, by rw [HE.out]; exact I6.out, B6.out⟩
        · have HF := Lib.hid (l17Free_is a v c c' wr.heap.size wr.heap.size R L L.length k false wr HXr.out HVr.out hlR (by rw [HQ.out]; omega) (by omega) (by simpa using hf))
          rw [if_neg hf] at HS
          clear hf
          go_wp2_with (go_at_call 33; (with_reducible refine HF.out.mono ?_); rintro e w1 ⟨rfl, rfl⟩)
          go_roundw
          case rel => exact ⟨k + 1, by omega, by go_num, HS.out, HB.out⟩
          case measure => simp [intOf]; omega
      · obtain rfl : k = most := by omega
        have HE := Lib.hid (show sx (cf R) k (r + 1) L = none from HN.out)
        go_wp2
        go_ret
        exact ⟨some ⟨wr.heap.size, 0, none⟩, 0, by rw [HE.out]; rfl, by rw [HE.out]; exact Ints.nil, HB.out.alloc hsz _⟩
set_option maxRecDepth 10000 in
set_option maxHeartbeats 4000000 in
theorem specBestSlots_any (a : Option Addr) (c : Nat) (R : List (List Bool)) (w : World) (hx : TbL w w.heap.size a R) (hl : R.length ≤ maxLen) :
    Calls Tryd.prog 10 #[.slice a R.length c] w (ListPostC (bsL R) w) := by
  have HX := Lib.hid hx
  have HC := Lib.hid (specConflictsValid_is a c w.heap.size R (tbB R) _ hx hl rfl)
  clear hx hl
  cases htb : tbB R
  · rw [bsL_no (by rw [htb]; rfl)]
    rw [htb] at HC
    clear htb
    have HG := Lib.hid (fun m => listPostC_grow ((Grow.lit0 .i64 3 (w.drewN m) w.heap.size (Nat.le_refl _))) ((below_drewN (Below.refl w.heap.size w) m).alloc (Nat.le_refl _) _))
    go_enter Tryd.func10, Tryd.ntmps10
    go_wp2_with (go_at_call 25; (with_reducible refine HC.out.mono ?_); rintro e w1 ⟨rfl, m, rfl⟩)
    go_ret
    exact HG.out m
  · have HO := Lib.hid (tbB_ok htb)
    have h10 : R.length ≤ 10 := HO.out.1
    by_cases h7 : R.length ≤ 7
    · rw [bsL_yes (by rw [htb]; simp [h7])]
      rw [htb] at HC
      have g7 : ¬ (7 : Int) < (R.length : Int) := by omega
      have HBs := Lib.hid (bsN_some R)
      clear htb
      go_enter Tryd.func10, Tryd.ntmps10
      go_wp2_with (go_at_call 25; (with_reducible refine HC.out.mono ?_); rintro e w1 ⟨rfl, m, rfl⟩)
      have B1 := Lib.hid (below_drewN (Below.refl w.heap.size w) m)
      clear g7
      generalize w.drewN m = W0 at *
      go_loopw [3] (fun i wr => ∃ k : Nat, k ≤ R.length ∧ i = .int .i64 (k : Int) ∧ firstC (fun m => sx (cf R) m R.length []) k 0 = none ∧ Below w.heap.size w wr) (fun i _ => R.length + 1 - (intOf i).toNat)
      case atStart => exact ⟨0, Nat.zero_le _, rfl, rfl, B1.out⟩
      case round =>
        obtain ⟨k, hk, rfl, hno, hb⟩ := hrel
        have HN := Lib.hid hno
        have HB := Lib.hid hb
        have hsz := hb.size
        clear hno hb B1
        have HS := Lib.hid (firstC_snoc HN.out)
        rw [Nat.zero_add] at HS
        have A0 := Lib.hid (alloc_belowX wr (.cells #[] 3))
        have X0 := Lib.hid ((HX.out.next HB.out).next A0.out)
        have HL := Lib.hid (show Calls Tryd.prog 26 #[.slice a R.length c, .slice (some ⟨wr.heap.size, 0, none⟩) 0 0, .int .i64 (k : Int)] (wr.alloc (.cells #[] 3)) (SrP (cf R) k R.length [] (wr.alloc (.cells #[] 3))) from l17Search_any a c R k HO.out.2.1 h10 (by omega) R.length [] (some ⟨wr.heap.size, 0, none⟩) 0 _ X0.out Ints.nil (by simp))
        cases ho : sx (cf R) k R.length [] with
        | none =>
          have HOo := Lib.hid ho
          rw [ho] at HS
          have hkn : k < R.length := by
            obtain ⟨s, M, h1, h2, hM, _⟩ := bs_facts (cf R) R.length
            rcases Nat.lt_or_ge k R.length with h3 | h3
            · exact h3
            · exfalso
              have h4 := firstC_none HS.out M (Nat.zero_le _) (by omega)
              rw [h2] at h4; cases h4
          have z : ((0 : Int) == (R.length : Int)) = false := by rw [beq_eq_false_iff_ne]; omega
          clear ho
          go_wp2_with (go_at_call 26; (with_reducible refine HL.out.mono ?_); rintro e w6 hp6
                       obtain ⟨a6, c6, rfl, i6, b6⟩ := hp6
                       have B6 := Lib.hid (HB.out.trans ((A0.out.trans (b6.mono A0.out.size)).mono hsz))
                       clear i6 b6
                       simp only [HOo.out, Option.getD_none, List.length_nil] at ⊢)
          go_roundw
          case rel => exact ⟨k + 1, by omega, by go_num, HS.out, B6.out⟩
          case measure => simp [intOf]; omega
        | some T =>
          have HOo := Lib.hid ho
          rw [ho] at HS
          have hTl := sx_len ho
          rw [List.length_nil, Nat.zero_add] at hTl
          have z : ((T.length : Int) == (R.length : Int)) = true := by rw [beq_iff_eq]; omega
          have HE : Hid (bsN R = T) := by
            have h1 := HBs.out
            have h2 := firstC_more (m := R.length + 1) HS.out (by omega)
            rw [show bs (cf R) R.length = some T from h2] at h1
            exact (Option.some.inj h1).symm
          have NT := Lib.hid (iL_len T)
          have hT9 : T.length ≤ 10 := by omega
          clear ho hTl
          go_wp2_with (first
            | (go_at_call 26; (with_reducible refine HL.out.mono ?_); rintro e w6 hp6
               obtain ⟨a6, c6, rfl, i6, b6⟩ := hp6
               simp only [HOo.out, Option.getD_some] at i6 ⊢
               have A6 := Lib.hid (alloc_belowX w6 (.cells #[] 3))
               have I6 := Lib.hid (i6.below A6.out)
               have B6 := Lib.hid ((HB.out.trans ((A0.out.trans (b6.mono A0.out.size)).mono hsz)).trans (A6.out.mono (Nat.le_trans (Nat.le_trans hsz A0.out.size) b6.size)))
               have hs6 : w.heap.size ≤ w6.heap.size := Nat.le_trans (Nat.le_trans hsz A0.out.size) b6.size
               clear i6 b6)
            | (at_builtin; refine wpList_appendA (.tmp 25) (.tmp 26) w.heap.size (some ⟨w6.heap.size, 0, none⟩) a6 0 0 T.length c6 w6.heap.size [] (iL T) rfl rfl rfl rfl (Grow.lit0 _ _ _ _ hs6) I6.out NT.out (by omega) (by simp; omega) ?_
               intro a4 cap4 w4 hg4 hb4 _
               rw [Nat.zero_add, List.nil_append] at hg4
               have G4 := Lib.hid hg4
               have B4 := Lib.hid (B6.out.trans hb4)
               clear hg4 hb4))
          go_ret
          rw [HE.out]
          exact listPostC_grow G4.out B4.out
    · rw [bsL_no (by rw [htb]; simp [h7])]
      rw [htb] at HC
      have g7 : (7 : Int) < (R.length : Int) := by omega
      clear htb
      have HG := Lib.hid (fun m => listPostC_grow ((Grow.lit0 .i64 3 (w.drewN m) w.heap.size (Nat.le_refl _))) ((below_drewN (Below.refl w.heap.size w) m).alloc (Nat.le_refl _) _))
      go_enter Tryd.func10, Tryd.ntmps10
      go_wp2_with (go_at_call 25; (with_reducible refine HC.out.mono ?_); rintro e w1 ⟨rfl, m, rfl⟩)
      go_ret
      exact HG.out m
end Go.Proofs.YtibgpgifdjefnaaDoor
