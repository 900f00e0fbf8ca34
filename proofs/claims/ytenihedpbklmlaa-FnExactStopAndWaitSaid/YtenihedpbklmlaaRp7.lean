/-
  What the model of SelectRepeat answers. Condition: a list that can be read.
-/
import Derived.Test.YtenihedpbklmlaaRp6
namespace Go.Proofs.Ytenihedpbklmlaa
open Go.RowKit

theorem sr_go {N V : Nat} {lost : Nat → Bool} {f b m : Nat} {d : Nat → Bool} (hs : SrAt N b d) (hb : b < N) (hm : ¬ 300 ≤ m) (hf : 301 ≤ f + m) (hV : 1 ≤ V) :
    ∃ g, 301 ≤ g + (m + (srRow lost b m d (gbLen N V b)).2.length) ∧ m < m + (srRow lost b m d (gbLen N V b)).2.length ∧
      srRun N V lost f b d m = (srRun N V lost g (srUp N (srRow lost b m d (gbLen N V b)).1 N b) (srRow lost b m d (gbLen N V b)).1 (m + (srRow lost b m d (gbLen N V b)).2.length)).map ((srRow lost b m d (gbLen N V b)).2 ++ ·) := by
  cases f with
  | zero => omega
  | succ g =>
    have := srRow_pos (lost := lost) (m := m) (hs.2.2 hb) (gbLen_pos hb hV)
    exact ⟨g, by omega, by omega, by rw [srRun, if_pos hb, if_neg hm]⟩
theorem sr_none {N V : Nat} {lost : Nat → Bool} {f b m : Nat} {d : Nat → Bool} (hb : b < N) (hm : 300 ≤ m) : srRun N V lost f b d m = none := by
  cases f with
  | zero => rw [srRun, if_pos hb]
  | succ g => rw [srRun, if_pos hb, if_pos hm]
theorem sr_some {N V : Nat} {lost : Nat → Bool} {f b m : Nat} {d : Nat → Bool} (hb : ¬ b < N) : srRun N V lost f b d m = some [] := by
  cases f with
  | zero => rw [srRun, if_neg hb]
  | succ g => rw [srRun, if_neg hb]
theorem srRow_yes {lost : Nat → Bool} {b m c : Nat} {d : Nat → Bool} (h : (srRow lost b m d c).1 (b + c) = true) : srRow lost b m d (c + 1) = srRow lost b m d c := by rw [srRow, if_pos h]
theorem srRow_no {lost : Nat → Bool} {b m c : Nat} {d : Nat → Bool} (h : (srRow lost b m d c).1 (b + c) = false) : srRow lost b m d (c + 1) = (fun k => if k = b + c then !lost (m + (srRow lost b m d c).2.length) else (srRow lost b m d c).1 k, (srRow lost b m d c).2 ++ [((b + c : Nat) : Int)]) := by rw [srRow, if_neg (by rw [h]; simp)]
theorem srRow_len2 (lost : Nat → Bool) (b m : Nat) (d : Nat → Bool) : ∀ c, (srRow lost b m d c).2.length ≤ c := fun c => by rw [(sl_row lost b m d c).1]; exact slF_len _ _ _
theorem srUp_is {N b' : Nat} {d : Nat → Bool} (hN : b' ≤ N) (hx : ¬ (b' < N ∧ d b' = true)) : ∀ (f b : Nat), N ≤ b + f → b ≤ b' → (∀ k, b ≤ k → k < b' → d k = true) → srUp N d f b = b'
  | 0, b, h1, h2, _ => by rw [srUp]; omega
  | f + 1, b, h1, h2, h3 => by
    rw [srUp]
    by_cases e : b = b'
    · subst e; rw [if_neg hx]
    · rw [if_pos ⟨by omega, h3 b (Nat.le_refl _) (by omega)⟩]
      exact srUp_is hN hx f (b + 1) (by omega) (by omega) fun k hk hk2 => h3 k (by omega) hk2
/-- The model's lists: what has been sent, and who has been accepted (block A). -/
structure SrW (w W : World) (A N : Nat) (d : Nat → Bool) (ad : Option Addr) (m cap : Nat) (L : List Int) : Prop where
  g : Grow .i64 3 W w.heap.size ad m cap L
  r : W.rowIs A 4 N (fun i => .bool (d i))
  n : ∀ g, ad = some ⟨g, 0, none⟩ → g ≠ A
  b : Below w.heap.size w W
  a : w.heap.size ≤ A
section
variable {w W W' : World} {A N m cap : Nat} {d : Nat → Bool} {ad : Option Addr} {L : List Int}
theorem SrW.set (h : SrW w W A N d ad m cap L) (k : Nat) (v : Bool) : SrW w (W.setCell ⟨A, k, none⟩ (.bool v)) A N (fun j => if j = k then v else d j) ad m cap L := by
  refine ⟨⟨h.g.1, ?_⟩, (World.rowIs.set h.r k (.bool v)).congr fun i _ => ?_, h.n, h.b.setCell (p := ⟨A, k, none⟩) h.a _, h.a⟩
  · rcases h.g.2 with h0 | ⟨g, c, cur, e, hg, hh, rest⟩
    · exact .inl h0
    · refine .inr ⟨g, c, cur, e, hg, ?_, rest⟩
      injection e with e1 _ _
      exact (Below.heap_setCell W ⟨A, k, none⟩ _ _ (h.n g e1)).trans hh
  · by_cases e : i = k
    · simp [e]
    · simp [e]
theorem SrW.alloc (h : SrW w W A N d ad m cap L) (o : Obj) : SrW w (W.alloc o) A N d ad m cap L := ⟨h.g.alloc o, h.r.alloc o, h.n, h.b.alloc h.b.size o, h.a⟩
theorem SrW.app (h : SrW w W A N d ad m cap L) {v : Int} {a' : Option Addr} {cap' : Nat} (hx : App1 w.heap.size ad m L v W a' cap' W') : SrW w W' A N d a' (m + 1) cap' (L ++ [v]) := by
  have hA : A < W.heap.size := World.rowIs.lt h.r
  refine ⟨hx.1, h.r.of_block (hx.2.2.1 A hA (fun e => h.n A e rfl)), fun g e => ?_, h.b.trans hx.2.1, h.a⟩
  rcases hx.2.2.2 with e2 | ⟨g2, h2, e2⟩
  · exact h.n g (by rw [← e2, e])
  · rw [e] at e2
    injection e2 with e2
    injection e2 with e2
    omega
end
set_option maxRecDepth 10000 in
theorem srW_new (w : World) (N : Nat) : SrW w ((w.alloc (.cells #[] 3)).alloc (.cells (madeCells #[.bool false] N) 4)) (w.heap.size + 1) N (fun _ => false) (some ⟨w.heap.size, 0, none⟩) 0 0 [] := by
  have h := World.rowIs_made (w.alloc (.cells #[] 3)) (.bool false) N 4
  have e : (w.alloc (.cells #[] 3)).heap.size = w.heap.size + 1 := by simp
  rw [e] at h
  exact ⟨(Grow.lit0 .i64 3 w w.heap.size (Nat.le_refl _)).alloc _, h, fun g e => by injection e with e; injection e with e; omega, ((Below.refl _ _).alloc (Nat.le_refl _) _).alloc (by simp) _, by omega⟩
set_option maxRecDepth 10000 in
set_option maxHeartbeats 4000000 in
theorem specSelectRepeat_any (n v : Int) (al : Option Addr) (cl : Nat) (ls : List Bool) (w : World) (hl : Bls w w.heap.size al ls) :
    Calls Try.prog 30 #[.int .i64 n, .int .i64 v, .slice al ls.length cl] w (OptP (srO n v (bt ls)) w) := by
  have HG0 := Lib.hid (Grow.lit0 .i64 3 w w.heap.size (Nat.le_refl _))
  have HB0 := Lib.hid (alloc_belowX w (.cells #[] 3))
  cases h1 : rpIn n
  · have HI := Lib.hid (fun W => rpS_is n false W h1)
    rw [srO_no (by rw [h1]; rfl)]
    clear h1
    go_enter Try.func30, Try.ntmps30
    go_wp2_with (go_at_call 44; ((with_reducible refine (HI.out _).mono ?_); rintro e w1 ⟨rfl, rfl⟩))
    go_ret2
    exact pairP_grow HG0.out HB0.out
  · have HI := Lib.hid (fun W => rpS_is n true W h1)
    cases h2 : wnIn v
    · have HJ := Lib.hid (fun W => wnS_is v false W h2)
      rw [srO_no (by rw [h1, h2]; rfl)]
      clear h1 h2
      go_enter Try.func30, Try.ntmps30
      go_wp2_with (first
        | (go_at_call 44; ((with_reducible refine (HI.out _).mono ?_); rintro e w1 ⟨rfl, rfl⟩))
        | (go_at_call 44; ((with_reducible refine (HJ.out _).mono ?_); rintro e w1 ⟨rfl, rfl⟩)))
      go_ret2
      exact pairP_grow HG0.out HB0.out
    · have HJ := Lib.hid (fun W => wnS_is v true W h2)
      obtain ⟨N, rfl, hN⟩ := rpIn_nat h1
      obtain ⟨V, rfl, hV1, hV8⟩ := wnIn_nat h2
      obtain ⟨O, hO⟩ : ∃ O, O = srO N V (bt ls) := ⟨_, rfl⟩
      have HO : Hid (O = (srRun N V (bt ls) 301 0 (fun _ => false) 0).map (([] : List Int) ++ ·)) := Lib.hid (by
        rw [hO]; unfold srO; rw [h1, h2, Int.toNat_natCast, Int.toNat_natCast]; simp)
      have HLs := Lib.hid hl
      have HW0 := Lib.hid (srW_new w N)
      have hmk := makeB N (by omega)
      rw [← hO]
      clear h1 h2 hO hl HG0 HB0
      go_enter Try.func30, Try.ntmps30
      go_wp2_with (first
        | (go_at_call 44; ((with_reducible refine (HI.out _).mono ?_); rintro e w1 ⟨rfl, rfl⟩))
        | (go_at_call 44; ((with_reducible refine (HJ.out _).mono ?_); rintro e w1 ⟨rfl, rfl⟩)))
      clear hmk
      generalize (w.alloc (.cells #[] 3)).alloc (.cells (madeCells #[.bool false] N) 4) = u1 at HW0 ⊢
      generalize hAA : w.heap.size + 1 = A at HW0 ⊢
      clear hAA
      go_loopw [8, 10] (fun S B wr => ∃ (f b m : Nat) (L : List Int) (ad : Option Addr) (cap : Nat) (d : Nat → Bool), S = .slice ad m cap ∧ B = .int .i64 (b : Int) ∧ SrAt N b d ∧ m ≤ 330 ∧ 301 ≤ f + m ∧ SrW w wr A N d ad m cap L ∧ O = (srRun N V (bt ls) f b d m).map (L ++ ·)) (fun S _ _ => 400 - lenS S)
      case atStart => exact ⟨301, 0, 0, [], _, 0, fun _ => false, rfl, rfl, srAt_zero N, by omega, by omega, HW0.out, HO.out⟩
      case round =>
        obtain ⟨f, b, m, L, ad, cap, d, rfl, rfl, hsa, hm330, hf, hw, ho⟩ := hrel
        have HW := Lib.hid hw
        have HO2 := Lib.hid ho
        have HSA := Lib.hid hsa
        have hsz : w.heap.size ≤ wr.heap.size := hw.b.size
        have hbN := hsa.1
        clear hw ho hsa HW0 HO
        by_cases hbn : b < N
        · have hbI : (b : Int) < (N : Int) := by omega
          by_cases hm3 : 300 ≤ m
          · have hmI : (300 : Int) ≤ (m : Int) := by omega
            have HE : Hid (O = none) := Lib.hid (by rw [HO2.out, sr_none hbn hm3]; rfl)
            have HG9 := Lib.hid (Grow.lit0 .i64 3 wr w.heap.size hsz)
            have HB9 := Lib.hid (HW.out.b.alloc hsz (.cells #[] 3))
            go_wp2
            go_ret2
            rw [HE.out]
            exact pairP_grow HG9.out HB9.out
          · have hmI : ¬ (300 : Int) ≤ (m : Int) := by omega
            obtain ⟨f2, hf2, hlt2, hr2⟩ := sr_go (lost := bt ls) HSA.out hbn hm3 hf hV1
            have HO3 := Lib.hid HO2.out
            rw [hr2, map_app] at HO3
            have HE := Lib.hid (gbEndS (v := V) hbN)
            have hg8 : gbLen N V b ≤ 8 := by unfold gbLen; omega
            have hgl : b + gbLen N V b ≤ N := by have := gbLen_le N V b; omega
            have HNx := Lib.hid (HSA.out.next (m := m) (w := V) (lost := bt ls))
            have r1 := wrapW (n := (b : Int) + (V : Int)) (by omega)
            have r1' := wrapW' (n := (b : Int) + (V : Int)) (by omega)
            generalize gbLen N V b = g at hf2 hlt2 HO3 HE hgl hg8 HNx
            have HF2 := Lib.hid (And.intro hf2 hlt2)
            have HW1 : Hid (SrW w wr A N (srRow (bt ls) b m d 0).1 ad m cap (L ++ (srRow (bt ls) b m d 0).2)) := Lib.hid (by
              show SrW w wr A N d ad m cap (L ++ [])
              rw [List.append_nil]; exact HW.out)
            clear hr2 hf2 hlt2 hf HO2
            go_wp2
            clear hmI hbI
            generalize wr = u2 at HW1 hsz ⊢
            go_loopw [8, 11] (fun S K ws => ∃ (c k m2 : Nat) (ad2 : Option Addr) (cap2 : Nat), S = .slice ad2 m2 cap2 ∧ K = .int .i64 (k : Int) ∧ c ≤ g ∧ k = b + c ∧ m2 = m + (srRow (bt ls) b m d c).2.length ∧ SrW w ws A N (srRow (bt ls) b m d c).1 ad2 m2 cap2 (L ++ (srRow (bt ls) b m d c).2)) (fun _ K _ => N - (intOf K).toNat)
            case atStart => exact ⟨0, b, m, ad, cap, rfl, rfl, Nat.zero_le _, rfl, rfl, HW1.out⟩
            case round =>
              obtain ⟨c, k, m2, ad2, cap2, rfl, rfl, hc, hk, hm2, hw2⟩ := hrel
              have HW2 := Lib.hid hw2
              have hws : w.heap.size ≤ wr.heap.size := hw2.b.size
              have HK := Lib.hid hk
              have HM2 := Lib.hid hm2
              have hif := HE.out
              have hRl := srRow_len2 (bt ls) b m d c
              have hm2b : m2 ≤ 338 := by omega
              have hk31 : k ≤ 30 := by omega
              by_cases hcg : c < g
              · have hd : (k : Int) < ((b + g : Nat) : Int) := by omega
                have hkN : k < N := by omega
                have hkI : (k : Int) < (N : Int) := by omega
                have ck := World.rowIs.cell HW2.out.r hkN
                have fk := World.rowIs.frozen HW2.out.r k
                have HL1 := Lib.hid (HLs.out.below HW2.out.b)
                obtain ⟨dk, hdk⟩ : ∃ dk, dk = (srRow (bt ls) b m d c).1 k := ⟨_, rfl⟩
                rw [← hdk] at ck
                have HDK := Lib.hid (show (srRow (bt ls) b m d c).1 (b + c) = dk by rw [hdk, hk])
                clear hk hm2 hw2 hdk hRl
                generalize hEE : b + g = E at hif hd ⊢
                have HEE := Lib.hid hEE
                clear hEE
                cases dk
                · have HRn := Lib.hid (srRow_no HDK.out)
                  rw [← HM2.out, ← HK.out] at HRn
                  obtain ⟨lo, hlo⟩ : ∃ lo, bt ls m2 = lo := ⟨_, rfl⟩
                  have HI1 := Lib.hid (fun W h => l16At_is al cl w.heap.size ls m2 lo W h hlo)
                  rw [hlo] at HRn
                  have HW3 := Lib.hid (HW2.out.set k (!lo))
                  have HCC : Hid (((wr.setCell ⟨A, k, none⟩ (.bool (!lo))).alloc (.cells #[.int .i64 (k : Int)] 3)).cell? ⟨wr.heap.size, 0, none⟩ = some (.int .i64 (k : Int))) := Lib.hid (by
                    have h := heap_alloc_last (wr.setCell ⟨A, k, none⟩ (.bool (!lo))) (.cells #[.int .i64 (k : Int)] 3)
                    have e : (wr.setCell ⟨A, k, none⟩ (.bool (!lo))).heap.size = wr.heap.size := by simp
                    rw [e] at h
                    simp only [World.cell?, h]; rfl)
                  clear hlo
                  go_wp2_with (first
                    | (at_builtin; refine wpList_app1k (.tmp 53) (.tmp 55) w.heap.size ad2 m2 cap2 (L ++ (srRow (bt ls) b m d c).2) ⟨wr.heap.size, 0, none⟩ (k : Int) rfl rfl rfl rfl (HW3.out.alloc _).g HCC.out (by omega) (HW3.out.alloc _).b.size ?_; intro a3 cap3 w6 h6; have HW6 := Lib.hid ((HW3.out.alloc _).app h6); clear h6)
                    | (go_at_call 51; ((with_reducible refine (HI1.out _ HL1.out).mono ?_); rintro e w1 ⟨rfl, rfl⟩)))
                  go_roundw
                  case rel => exact ⟨c + 1, k + 1, m2 + 1, a3, cap3, rfl, by go_num, by omega, by have := HK.out; omega, by rw [HRn.out]; have := HM2.out; simp; omega, by rw [HRn.out, ← List.append_assoc]; exact HW6.out⟩
                  case measure => simp [intOf]; omega
                · have HRn := Lib.hid (srRow_yes HDK.out)
                  go_wp2
                  go_roundw
                  case rel => exact ⟨c + 1, k + 1, m2, ad2, cap2, rfl, by go_num, by omega, by have := HK.out; omega, by rw [HRn.out]; exact HM2.out, by rw [HRn.out]; exact HW2.out⟩
                  case measure => simp [intOf]; omega
              · obtain rfl : c = g := by omega
                have hd : ¬ (k : Int) < ((b + c : Nat) : Int) := by omega
                obtain ⟨D, hD⟩ : ∃ D, D = (srRow (bt ls) b m d c).1 := ⟨_, rfl⟩
                have HF3 := Lib.hid (show 301 ≤ f2 + m2 ∧ m < m2 by have := HF2.out; omega)
                have hm23 : m2 ≤ 330 := by omega
                have HO4 := Lib.hid HO3.out
                rw [← hm2, ← hD] at HO4
                rw [← hD] at HW2 HNx
                clear hk hm2 hw2 hRl hD
                generalize b + c = E at hif hd ⊢
                go_wp2
                clear hif hd r1 r1'
                generalize wr = u3 at HW2 hws ⊢
                go_loopw [10] (fun B ws => ∃ b' : Nat, B = .int .i64 (b' : Int) ∧ ws = u3 ∧ b ≤ b' ∧ b' ≤ N ∧ ∀ k, b ≤ k → k < b' → D k = true) (fun B _ => N - (intOf B).toNat)
                case atStart => exact ⟨b, rfl, rfl, Nat.le_refl _, hbN, fun k h3 h4 => by omega⟩
                case round =>
                  obtain ⟨b', rfl, rfl, hb1, hb2, hall⟩ := hrel
                  have HAll := Lib.hid hall
                  clear hall
                  by_cases hbb : b' < N
                  · have hbbI : (b' : Int) < (N : Int) := by omega
                    have ck := World.rowIs.cell HW2.out.r hbb
                    cases hDb : D b'
                    · rw [hDb] at ck
                      have HU := Lib.hid (srUp_is (d := D) (b' := b') hb2 (by rw [hDb]; simp) N b (by omega) hb1 HAll.out)
                      have HNy := Lib.hid HNx.out
                      rw [HU.out] at HO4 HNy
                      clear hDb
                      go_wp2
                      go_roundw
                      case rel => exact ⟨f2, b', m2, _, ad2, cap2, D, rfl, rfl, HNy.out, hm23, HF3.out.1, HW2.out, HO4.out⟩
                      case measure => have := HF3.out.2; simp [lenS]; omega
                    · rw [hDb] at ck
                      have HAll2 := Lib.hid (show ∀ k, b ≤ k → k < b' + 1 → D k = true from fun k h3 h4 => by
                        by_cases e : k = b'
                        · subst e; exact hDb
                        · exact HAll.out k h3 (by omega))
                      clear hDb
                      go_wp2
                      go_roundw
                      case rel => exact ⟨b' + 1, by go_num, by first | rfl | trivial, by omega, by omega, HAll2.out⟩
                      case measure => simp [intOf]; omega
                  · have hbbI : ¬ (b' : Int) < (N : Int) := by omega
                    have HU := Lib.hid (srUp_is (d := D) (b' := b') hb2 (fun h => hbb h.1) N b (by omega) hb1 HAll.out)
                    have HNy := Lib.hid HNx.out
                    rw [HU.out] at HO4 HNy
                    go_wp2
                    go_roundw
                    case rel =>
                      have h1 := HNy.out
                      have h2 := HF3.out.1
                      have h3 := HW2.out
                      have h4 := HO4.out
                      refine ⟨f2, b', m2, _, ad2, cap2, D, rfl, rfl, h1, hm23, h2, h3, h4⟩
                    case measure => have := HF3.out.2; simp [lenS]; omega
        · have hbI : ¬ (b : Int) < (N : Int) := by omega
          have HE : Hid (O = some L) := Lib.hid (by rw [HO2.out, sr_some hbn]; simp)
          go_wp2
          go_ret2
          rw [HE.out]
          exact pairP_grow HW.out.g HW.out.b
end Go.Proofs.Ytenihedpbklmlaa
