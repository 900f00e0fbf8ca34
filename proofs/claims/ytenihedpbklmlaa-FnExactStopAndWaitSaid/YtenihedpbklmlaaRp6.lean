/-
  What the models of StopAndWait and GoBack answer. Condition: lists that can be read.
-/
import Derived.Test.YtenihedpbklmlaaRp5
import Derived.Test.YtenihedpbklmlaaAcc1
namespace Go.Proofs.Ytenihedpbklmlaa
open Go.RowKit

set_option maxRecDepth 10000 in
theorem rpS_is (n : Int) (b : Bool) (w : World) (h : rpIn n = b) : Calls Try.prog 44 #[.int .i64 n, .int .i64 0, .int .i64 30] w fun e w' => e = .returned (.bool b) ∧ w = w' := betwS_is n 0 30 b w (by rw [← h]; unfold rpIn; rw [Bool.decide_and])
set_option maxRecDepth 10000 in
theorem wnS_is (v : Int) (b : Bool) (w : World) (h : wnIn v = b) : Calls Try.prog 44 #[.int .i64 v, .int .i64 1, .int .i64 8] w fun e w' => e = .returned (.bool b) ∧ w = w' := betwS_is v 1 8 b w (by rw [← h]; unfold wnIn; rw [Bool.decide_and])
theorem swK_next (lost un : Nat → Bool) (t : Nat) : swK lost un (t + 1) = if lost t || un t then swK lost un t else swK lost un t + 1 := rfl
theorem swC_next (lost un : Nat → Bool) (t j : Nat) : swC lost un (t + 1) j = swC lost un t j + if lost t = false ∧ j = swK lost un t then 1 else 0 := rfl
theorem swC_le (lost un : Nat → Bool) : ∀ t j, swC lost un t j ≤ t
  | 0, _ => Nat.le_refl _
  | t + 1, j => by
    have := swC_le lost un t j
    rw [swC_next]; split <;> omega
set_option maxRecDepth 10000 in
set_option maxHeartbeats 4000000 in
theorem specStopAndWait_any (n : Int) (al au : Option Addr) (cl cu : Nat) (ls us : List Bool) (w : World) (hl : Bls w w.heap.size al ls) (hu : Bls w w.heap.size au us) :
    Calls Try.prog 24 #[.int .i64 n, .slice al ls.length cl, .slice au us.length cu] w (StopP n ls us w) := by
  unfold StopP
  have HG0 := Lib.hid (Grow.lit0 .i64 3 w w.heap.size (Nat.le_refl _))
  have HB0 := Lib.hid (alloc_belowX w (.cells #[] 3))
  cases hok : rpIn n
  · have HI := Lib.hid (fun W => rpS_is n false W hok)
    obtain ⟨e1, e2⟩ := swL_no (n := n) (lost := bt ls) (un := bt us) (by unfold swB; rw [hok]; rfl)
    rw [e1, e2]
    clear hok e1 e2
    go_enter Try.func24, Try.ntmps24
    go_wp2_with (go_at_call 44; ((with_reducible refine (HI.out _).mono ?_); rintro e w1 ⟨rfl, rfl⟩))
    go_ret2
    exact pairP_grow HG0.out HB0.out
  · have HI := Lib.hid (fun W => rpS_is n true W hok)
    obtain ⟨N, rfl, hN⟩ := rpIn_nat hok
    have HLs := Lib.hid hl
    have HUs := Lib.hid hu
    have HOk := Lib.hid hok
    have hmk := makeX N (by omega)
    have HR0 := Lib.hid ((rowF_zeros w N).congr (h := fun j => (swC (bt ls) (bt us) 0 j : Int)) fun _ _ => rfl)
    have HB1 := Lib.hid (alloc_belowX w (.cells (madeCells #[.int .i64 0] N) 3))
    clear hl hu hok
    go_enter Try.func24, Try.ntmps24
    go_wp2_with (go_at_call 44; ((with_reducible refine (HI.out _).mono ?_); rintro e w1 ⟨rfl, rfl⟩))
    clear hmk
    go_loopw [9, 10] (fun T K wr => ∃ t k : Nat, T = .int .i64 (t : Int) ∧ K = .int .i64 (k : Int) ∧ k = swK (bt ls) (bt us) t ∧ t ≤ 300 ∧ k ≤ N ∧ (∀ u, u < t → swK (bt ls) (bt us) u < N) ∧ RowF wr w.heap.size N (fun j => (swC (bt ls) (bt us) t j : Int)) ∧ Below w.heap.size w wr) (fun T _ _ => 301 - (intOf T).toNat)
    case atStart => exact ⟨0, 0, rfl, rfl, rfl, by omega, Nat.zero_le _, fun u hu => absurd hu (Nat.not_lt_zero _), HR0.out, HB1.out⟩
    case round =>
      obtain ⟨t, k, rfl, rfl, hk, ht, hkN, hb, hr, hbl⟩ := hrel
      have HK := Lib.hid hk
      have HBd := Lib.hid hb
      have HR := Lib.hid hr
      have HB := Lib.hid hbl
      have hsz : w.heap.size ≤ wr.heap.size := hbl.size
      clear hk hb hr hbl HR0 HB1
      by_cases hlt : k < N
      · have hltI : (k : Int) < (N : Int) := by omega
        by_cases h3 : t = 300
        · obtain ⟨e1, e2⟩ := swL_no (n := (N : Int)) (lost := bt ls) (un := bt us) (by have := HK.out; rw [h3] at this; unfold swB; rw [Int.toNat_natCast, ← this]; simp; omega)
          have HE1 := Lib.hid (And.intro e1 e2)
          have z : ((t : Int) == 300) = true := by simp [h3]
          have HG9 := Lib.hid (Grow.lit0 .i64 3 wr w.heap.size hsz)
          have HB9 := Lib.hid (HB.out.alloc hsz (.cells #[] 3))
          clear e1 e2 h3
          go_wp2
          go_ret2
          rw [HE1.out.1, HE1.out.2]
          exact pairP_grow HG9.out HB9.out
        · have z : ((t : Int) == 300) = false := by simp; omega
          have z' : ¬ (t : Int) = 300 := by omega
          have HL1 := Lib.hid (HLs.out.below HB.out)
          have hb2 : ∀ u, u < t + 1 → swK (bt ls) (bt us) u < N := fun u hu => by
            by_cases e : u = t
            · subst e; rw [← HK.out]; exact hlt
            · exact HBd.out u (by omega)
          have HBd2 := Lib.hid hb2
          clear hb2
          cases hlo : bt ls t
          · have HI1 := Lib.hid (fun W h => l16At_is al cl w.heap.size ls t false W h hlo)
            have ck := HR.out.cell hlt
            have fk := HR.out.frozen k
            have hcl := swC_le (bt ls) (bt us) t k
            obtain ⟨q, hq⟩ : ∃ q, q = swC (bt ls) (bt us) t k := ⟨_, rfl⟩
            rw [← hq] at ck hcl
            have HR2 := Lib.hid (HR.out.put (k := k) (v := (q : Int) + 1) (h := fun j => (swC (bt ls) (bt us) (t + 1) j : Int)) (fun i _ => by
              rw [swC_next, hlo, ← HK.out]
              by_cases e : i = k
              · subst e; simp [hq]
              · simp [e]))
            have HB2 := Lib.hid (HB.out.setCell (p := ⟨w.heap.size, k, none⟩) (Nat.le_refl _) (.int .i64 ((q : Int) + 1)))
            have HU1 := Lib.hid (HUs.out.below HB2.out)
            have r1 := wrapW (n := (q : Int) + 1) (by omega)
            have r1' := wrapW' (n := (q : Int) + 1) (by omega)
            have HKn := Lib.hid (swK_next (bt ls) (bt us) t)
            rw [hlo, ← HK.out] at HKn
            clear hq hlo
            cases hun : bt us t
            · have HI2 := Lib.hid (fun W h => l16At_is au cu w.heap.size us t false W h hun)
              rw [hun] at HKn
              clear hun
              go_wp2_with (first
                | (go_at_call 51; ((with_reducible refine (HI1.out _ HL1.out).mono ?_); rintro e w1 ⟨rfl, rfl⟩))
                | (go_at_call 51; ((with_reducible refine (HI2.out _ HU1.out).mono ?_); rintro e w1 ⟨rfl, rfl⟩)))
              go_roundw
              case rel => exact ⟨t + 1, k + 1, by go_num, by go_num, by rw [HKn.out]; simp, by omega, by omega, HBd2.out, HR2.out, HB2.out⟩
              case measure => simp [intOf]; omega
            · have HI2 := Lib.hid (fun W h => l16At_is au cu w.heap.size us t true W h hun)
              rw [hun] at HKn
              clear hun
              go_wp2_with (first
                | (go_at_call 51; ((with_reducible refine (HI1.out _ HL1.out).mono ?_); rintro e w1 ⟨rfl, rfl⟩))
                | (go_at_call 51; ((with_reducible refine (HI2.out _ HU1.out).mono ?_); rintro e w1 ⟨rfl, rfl⟩)))
              go_roundw
              case rel => exact ⟨t + 1, k, by go_num, rfl, by rw [HKn.out]; simp, by omega, by omega, HBd2.out, HR2.out, HB2.out⟩
              case measure => simp [intOf]; omega
          · have HI1 := Lib.hid (fun W h => l16At_is al cl w.heap.size ls t true W h hlo)
            have HR2 := Lib.hid (HR.out.congr (h := fun j => (swC (bt ls) (bt us) (t + 1) j : Int)) (fun i _ => by rw [swC_next, hlo]; simp))
            have HKn := Lib.hid (swK_next (bt ls) (bt us) t)
            rw [hlo, ← HK.out] at HKn
            clear hlo
            go_wp2_with (go_at_call 51; ((with_reducible refine (HI1.out _ HL1.out).mono ?_); rintro e w1 ⟨rfl, rfl⟩))
            go_roundw
            case rel => exact ⟨t + 1, k, by go_num, rfl, by rw [HKn.out]; simp, by omega, by omega, HBd2.out, HR2.out, HB.out⟩
            case measure => simp [intOf]; omega
      · obtain rfl : k = N := by omega
        have HT : Hid (swT k (bt ls) (bt us) 300 = t) := Lib.hid (swT_first HBd.out HK.out.symm ht)
        obtain ⟨e1, e2⟩ := swL_yes (N := k) (lost := bt ls) (un := bt us) (by
          unfold swB
          rw [HOk.out, Int.toNat_natCast]
          have := swK_mono (bt ls) (bt us) t (300 - t)
          rw [show t + (300 - t) = 300 by omega, ← HK.out] at this
          simpa using this)
        rw [HT.out] at e1 e2
        have HE1 := Lib.hid (And.intro e1 e2)
        clear e1 e2
        go_wp2
        go_ret2
        rw [HE1.out.1, HE1.out.2]
        exact ⟨_, k, by rw [fnLs_len]; rfl, by rw [fnLs_len]; unfold maxLen; omega, own_rowF HR.out (Nat.le_refl _), HB.out⟩

theorem gb_go {N V : Nat} {lost : Nat → Bool} {f b m : Nat} (hb : b < N) (hm : ¬ 300 ≤ m) (hf : 301 ≤ f + m) (hV : 1 ≤ V) : ∃ g, 301 ≤ g + (m + gbLen N V b) ∧ gbRun N V lost f b m = (gbRun N V lost g (gbAcc lost m b (gbLen N V b)) (m + gbLen N V b)).map (up b (gbLen N V b) ++ ·) := by
  cases f with
  | zero => omega
  | succ g =>
    have := gbLen_pos hb hV
    exact ⟨g, by omega, by rw [gbRun, if_pos hb, if_neg hm]⟩
theorem gb_none {N V : Nat} {lost : Nat → Bool} {f b m : Nat} (hb : b < N) (hm : 300 ≤ m) : gbRun N V lost f b m = none := by
  cases f with
  | zero => rw [gbRun, if_pos hb]
  | succ g => rw [gbRun, if_pos hb, if_pos hm]
theorem gb_some {N V : Nat} {lost : Nat → Bool} {f b m : Nat} (hb : ¬ b < N) : gbRun N V lost f b m = some [] := by
  cases f with
  | zero => rw [gbRun, if_neg hb]
  | succ g => rw [gbRun, if_neg hb]
theorem gbAcc_next (lost : Nat → Bool) (m b c : Nat) : gbAcc lost m b (c + 1) = if lost (m + c) = false ∧ gbAcc lost m b c = b + c then b + c + 1 else gbAcc lost m b c := rfl
theorem gbEndS {n v s : Nat} (h : s ≤ n) : (if (s : Int) + (v : Int) < (n : Int) then (s : Int) + (v : Int) else (n : Int)) = ((s + gbLen n v s : Nat) : Int) := by
  unfold gbLen
  split <;> omega
theorem map_app {o : Option (List Int)} {A B : List Int} : (o.map (B ++ ·)).map (A ++ ·) = o.map ((A ++ B) ++ ·) := by
  cases o
  · rfl
  · simp
set_option maxRecDepth 10000 in
set_option maxHeartbeats 4000000 in
theorem specGoBack_any (n v : Int) (al : Option Addr) (cl : Nat) (ls : List Bool) (w : World) (hl : Bls w w.heap.size al ls) :
    Calls Try.prog 27 #[.int .i64 n, .int .i64 v, .slice al ls.length cl] w (OptP (gbO n v (bt ls)) w) := by
  have HG0 := Lib.hid (Grow.lit0 .i64 3 w w.heap.size (Nat.le_refl _))
  have HB0 := Lib.hid (alloc_belowX w (.cells #[] 3))
  cases h1 : rpIn n
  · have HI := Lib.hid (fun W => rpS_is n false W h1)
    rw [gbO_no (by rw [h1]; rfl)]
    clear h1
    go_enter Try.func27, Try.ntmps27
    go_wp2_with (go_at_call 44; ((with_reducible refine (HI.out _).mono ?_); rintro e w1 ⟨rfl, rfl⟩))
    go_ret2
    exact pairP_grow HG0.out HB0.out
  · have HI := Lib.hid (fun W => rpS_is n true W h1)
    cases h2 : wnIn v
    · have HJ := Lib.hid (fun W => wnS_is v false W h2)
      rw [gbO_no (by rw [h1, h2]; rfl)]
      clear h1 h2
      go_enter Try.func27, Try.ntmps27
      go_wp2_with (first
        | (go_at_call 44; ((with_reducible refine (HI.out _).mono ?_); rintro e w1 ⟨rfl, rfl⟩))
        | (go_at_call 44; ((with_reducible refine (HJ.out _).mono ?_); rintro e w1 ⟨rfl, rfl⟩)))
      go_ret2
      exact pairP_grow HG0.out HB0.out
    · have HJ := Lib.hid (fun W => wnS_is v true W h2)
      obtain ⟨N, rfl, hN⟩ := rpIn_nat h1
      obtain ⟨V, rfl, hV1, hV8⟩ := wnIn_nat h2
      obtain ⟨O, hO⟩ : ∃ O, O = gbO N V (bt ls) := ⟨_, rfl⟩
      have HO : Hid (O = (gbRun N V (bt ls) 301 0 0).map (([] : List Int) ++ ·)) := Lib.hid (by
        rw [hO]; unfold gbO; rw [h1, h2, Int.toNat_natCast, Int.toNat_natCast]; simp)
      have HLs := Lib.hid hl
      rw [← hO]
      clear h1 h2 hO hl
      go_enter Try.func27, Try.ntmps27
      go_wp2_with (first
        | (go_at_call 44; ((with_reducible refine (HI.out _).mono ?_); rintro e w1 ⟨rfl, rfl⟩))
        | (go_at_call 44; ((with_reducible refine (HJ.out _).mono ?_); rintro e w1 ⟨rfl, rfl⟩)))
      generalize w.alloc (.cells #[] 3) = u1 at HG0 HB0 ⊢
      go_loopw [8, 9] (fun S B wr => ∃ (f b m : Nat) (L : List Int) (ad : Option Addr) (cap : Nat), S = .slice ad m cap ∧ B = .int .i64 (b : Int) ∧ b ≤ N ∧ m ≤ 330 ∧ 301 ≤ f + m ∧ Grow .i64 3 wr w.heap.size ad m cap L ∧ O = (gbRun N V (bt ls) f b m).map (L ++ ·) ∧ Below w.heap.size w wr) (fun S _ _ => 400 - lenS S)
      case atStart => exact ⟨301, 0, 0, [], _, 0, rfl, rfl, Nat.zero_le _, by omega, by omega, HG0.out, HO.out, HB0.out⟩
      case round =>
        obtain ⟨f, b, m, L, ad, cap, rfl, rfl, hbN, hm330, hf, hg, ho, hbl⟩ := hrel
        have HG := Lib.hid hg
        have HO2 := Lib.hid ho
        have HB := Lib.hid hbl
        have hsz : w.heap.size ≤ wr.heap.size := hbl.size
        clear hg ho hbl HG0 HO HB0
        by_cases hbn : b < N
        · have hbI : (b : Int) < (N : Int) := by omega
          by_cases hm3 : 300 ≤ m
          · have hmI : (300 : Int) ≤ (m : Int) := by omega
            have HE : Hid (O = none) := Lib.hid (by rw [HO2.out, gb_none hbn hm3]; rfl)
            have HG9 := Lib.hid (Grow.lit0 .i64 3 wr w.heap.size hsz)
            have HB9 := Lib.hid (HB.out.alloc hsz (.cells #[] 3))
            go_wp2
            go_ret2
            rw [HE.out]
            exact pairP_grow HG9.out HB9.out
          · have hmI : ¬ (300 : Int) ≤ (m : Int) := by omega
            obtain ⟨f2, hf2, hr2⟩ := gb_go (lost := bt ls) hbn hm3 hf hV1
            have HO3 := Lib.hid HO2.out
            rw [hr2, map_app] at HO3
            have HE := Lib.hid (gbEndS (v := V) hbN)
            have hgp := gbLen_pos hbn hV1
            have hgl : b + gbLen N V b ≤ N := by have := gbLen_le N V b; omega
            have r1 := wrapW (n := (b : Int) + (V : Int)) (by omega)
            have r1' := wrapW' (n := (b : Int) + (V : Int)) (by omega)
            have HG1 : Hid (Grow .i64 3 wr w.heap.size ad m cap (L ++ up b 0)) := Lib.hid (by rw [show up b 0 = [] from rfl, List.append_nil]; exact HG.out)
            have HAin := Lib.hid (gbAcc_in (bt ls) m b)
            generalize gbLen N V b = g at hf2 HO3 HE hgp hgl
            have HF2 := Lib.hid hf2
            clear hr2 hf2 hf HO2
            go_wp2
            clear hmI hbI
            generalize wr = u2 at HG1 HB hsz ⊢
            go_loopw [8, 10, 11] (fun S X K ws => ∃ (c k x m2 : Nat) (ad2 : Option Addr) (cap2 : Nat), S = .slice ad2 m2 cap2 ∧ X = .int .i64 (x : Int) ∧ K = .int .i64 (k : Int) ∧ c ≤ g ∧ k = b + c ∧ x = gbAcc (bt ls) m b c ∧ m2 = m + c ∧ Grow .i64 3 ws w.heap.size ad2 m2 cap2 (L ++ up b c) ∧ Below w.heap.size w ws) (fun _ _ K _ => N - (intOf K).toNat)
            case atStart => exact ⟨0, b, b, m, ad, cap, rfl, rfl, rfl, Nat.zero_le _, rfl, rfl, rfl, HG1.out, HB.out⟩
            case round =>
              obtain ⟨c, k, x, m2, ad2, cap2, rfl, rfl, rfl, hc, hk, hx, hm2, hg2, hb2⟩ := hrel
              have HG2 := Lib.hid hg2
              have HB2 := Lib.hid hb2
              have hws : w.heap.size ≤ wr.heap.size := hb2.size
              have HK := Lib.hid hk
              have HX := Lib.hid hx
              have HM2 := Lib.hid hm2
              have hif := HE.out
              have hxb : x ≤ 100 := by rw [hx]; have := HAin.out c; omega
              have hk31 : k ≤ 30 := by omega
              have hm2b : m2 ≤ 400 := by omega
              by_cases hcg : c < g
              · have hd : (k : Int) < ((b + g : Nat) : Int) := by omega
                have HUp := Lib.hid (show L ++ up b (c + 1) = (L ++ up b c) ++ [(k : Int)] by rw [up_snoc, hk, List.append_assoc])
                have HL1 := Lib.hid (HLs.out.below HB2.out)
                have HAx := Lib.hid (gbAcc_next (bt ls) m b c)
                rw [← hm2, ← hx, ← hk] at HAx
                clear hk hx hm2 hg2 hb2
                generalize hEE : b + g = E at hif hd ⊢
                have HEE := Lib.hid hEE
                clear hEE
                cases hlo : bt ls m2
                · have HI1 := Lib.hid (fun W h => l16At_is al cl w.heap.size ls m2 false W h hlo)
                  rw [hlo] at HAx
                  clear hlo
                  by_cases hxk : x = k
                  · have z : ((x : Int) == (k : Int)) = true := by simp [hxk]
                    have HAy : Hid (gbAcc (bt ls) m b (c + 1) = k + 1) := Lib.hid (by rw [HAx.out, if_pos ⟨rfl, hxk⟩])
                    clear hxk
                    go_wp2_with (first
                      | (at_builtin; refine wpList_append1 (.tmp 52) (.tmp 54) w.heap.size ad2 m2 cap2 (L ++ up b c) ⟨wr.heap.size, 0, none⟩ (k : Int) rfl rfl rfl rfl (HG2.out.alloc _) (by simp) (by omega) (by simp; omega) ?_; intro a3 cap3 w6 hg6 hb6; have HG6 := Lib.hid hg6; have HB6 := Lib.hid ((HB2.out.alloc hws _).trans hb6); clear hg6 hb6)
                      | (go_at_call 51; ((with_reducible refine (HI1.out _ HL1.out).mono ?_); rintro e w1 ⟨rfl, rfl⟩)))
                    go_roundw
                    case rel => exact ⟨c + 1, k + 1, k + 1, m2 + 1, a3, cap3, rfl, by go_num, by go_num, by omega, by have := HK.out; omega, HAy.out.symm, by have := HM2.out; omega, by rw [HUp.out]; exact HG6.out, HB6.out⟩
                    case measure => simp [intOf]; have := HK.out; omega
                  · have z : ((x : Int) == (k : Int)) = false := by simp; omega
                    have HAy : Hid (gbAcc (bt ls) m b (c + 1) = x) := Lib.hid (by rw [HAx.out, if_neg (fun h => hxk h.2)])
                    clear hxk
                    go_wp2_with (first
                      | (at_builtin; refine wpList_append1 (.tmp 52) (.tmp 54) w.heap.size ad2 m2 cap2 (L ++ up b c) ⟨wr.heap.size, 0, none⟩ (k : Int) rfl rfl rfl rfl (HG2.out.alloc _) (by simp) (by omega) (by simp; omega) ?_; intro a3 cap3 w6 hg6 hb6; have HG6 := Lib.hid hg6; have HB6 := Lib.hid ((HB2.out.alloc hws _).trans hb6); clear hg6 hb6)
                      | (go_at_call 51; ((with_reducible refine (HI1.out _ HL1.out).mono ?_); rintro e w1 ⟨rfl, rfl⟩)))
                    go_roundw
                    case rel => exact ⟨c + 1, k + 1, x, m2 + 1, a3, cap3, rfl, rfl, by go_num, by omega, by have := HK.out; omega, HAy.out.symm, by have := HM2.out; omega, by rw [HUp.out]; exact HG6.out, HB6.out⟩
                    case measure => simp [intOf]; have := HK.out; omega
                · have HI1 := Lib.hid (fun W h => l16At_is al cl w.heap.size ls m2 true W h hlo)
                  have HAy : Hid (gbAcc (bt ls) m b (c + 1) = x) := Lib.hid (by rw [HAx.out, hlo]; simp)
                  clear hlo
                  go_wp2_with (first
                    | (at_builtin; refine wpList_append1 (.tmp 52) (.tmp 54) w.heap.size ad2 m2 cap2 (L ++ up b c) ⟨wr.heap.size, 0, none⟩ (k : Int) rfl rfl rfl rfl (HG2.out.alloc _) (by simp) (by omega) (by simp; omega) ?_; intro a3 cap3 w6 hg6 hb6; have HG6 := Lib.hid hg6; have HB6 := Lib.hid ((HB2.out.alloc hws _).trans hb6); clear hg6 hb6)
                    | (go_at_call 51; ((with_reducible refine (HI1.out _ HL1.out).mono ?_); rintro e w1 ⟨rfl, rfl⟩)))
                  go_roundw
                  case rel => exact ⟨c + 1, k + 1, x, m2 + 1, a3, cap3, rfl, rfl, by go_num, by omega, by have := HK.out; omega, HAy.out.symm, by have := HM2.out; omega, by rw [HUp.out]; exact HG6.out, HB6.out⟩
                  case measure => simp [intOf]; have := HK.out; omega
              · obtain rfl : c = g := by omega
                have hd : ¬ (k : Int) < ((b + c : Nat) : Int) := by omega
                have HXN := Lib.hid (show x ≤ N by rw [hx]; have := HAin.out c; omega)
                have HO4 := Lib.hid HO3.out
                rw [← hm2, ← hx] at HO4
                have HF3 := Lib.hid (show 301 ≤ f2 + m2 by have := HF2.out; omega)
                have hmm : m < m2 := by omega
                have hm23 : m2 ≤ 330 := by omega
                clear hk hx hm2 hg2 hb2
                generalize b + c = E at hif hd ⊢
                go_wp2
                go_roundw
                case rel => exact ⟨f2, x, m2, L ++ up b c, ad2, cap2, rfl, rfl, HXN.out, hm23, HF3.out, HG2.out, HO4.out, HB2.out⟩
                case measure => simp [lenS]; omega
        · have hbI : ¬ (b : Int) < (N : Int) := by omega
          have HE : Hid (O = some L) := Lib.hid (by rw [HO2.out, gb_some hbn]; simp)
          go_wp2
          go_ret2
          rw [HE.out]
          exact pairP_grow HG.out HB.out
end Go.Proofs.Ytenihedpbklmlaa
