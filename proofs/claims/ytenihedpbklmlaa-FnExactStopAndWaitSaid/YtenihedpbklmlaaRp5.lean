/-
  What StopAndWait, GoBack and SelectRepeat answer. Condition: lists that can be read.
-/
import Derived.Test.YtenihedpbklmlaaRp4
namespace Go.Proofs.Ytenihedpbklmlaa
open Go.RowKit

theorem KeptOut.mono' {A E B : Nat} {u v : World} (h : KeptOut A E u v) (hB : B ≤ A) (hu : B ≤ u.heap.size) : Below B u v := ⟨h.os, h.tape, h.output, h.size, fun j hj => h.block j (by omega) (.inl (by omega))⟩
theorem ownInts_le {w : World} {B B' t : Nat} {k : IntKind} {a : Option Addr} {xs : List Int} (h : OwnInts k t w B a xs) (hB : B' ≤ B) : OwnInts k t w B' a xs := fun hne => by
  obtain ⟨b, c, e, h1, h2⟩ := h hne
  exact ⟨b, c, e, Nat.le_trans hB h1, h2⟩
theorem rpIn_nat {n : Int} (h : rpIn n = true) : ∃ N : Nat, n = (N : Int) ∧ N ≤ 30 := by
  simp only [rpIn, Bool.and_eq_true, decide_eq_true_eq] at h
  exact ⟨n.toNat, by omega, by omega⟩
theorem wnIn_nat {v : Int} (h : wnIn v = true) : ∃ V : Nat, v = (V : Int) ∧ 1 ≤ V ∧ V ≤ 8 := by
  simp only [wnIn, Bool.and_eq_true, decide_eq_true_eq] at h
  exact ⟨v.toNat, by omega, by omega, by omega⟩
/-- What a call answers that may refuse: the list and true, or nothing and false. -/
def optL (o : Option (List Int)) : List Int := o.getD []
def OptP (o : Option (List Int)) (w : World) (e : Ending) (w' : World) : Prop := PairP (optL o) (.bool o.isSome) w e w'
theorem optP_send {σ : Type} {o : Option (List Int × σ)} {Mf : World → σ → Nat → Prop} {A E : Nat} {w W w' : World} {e : Ending} (h : SendP o Mf A E W e w') (hA : w.heap.size ≤ A) (hb : Below w.heap.size w W) : OptP (o.map Prod.fst) w e w' := by
  obtain ⟨L, b, v, c, rfl, h1, h2, h3, h4⟩ := h
  have hW := hb.size
  have hB : Below w.heap.size w w' := hb.trans (h3.mono' hA hW)
  rcases h4 with ⟨rfl, s, rfl, _⟩ | ⟨rfl, rfl, rfl⟩
  · exact ⟨v, c, rfl, h1, ownInts_le h2 hW, hB⟩
  · exact ⟨v, c, rfl, h1, ownInts_le h2 hW, hB⟩
theorem gbO_rn {N V : Nat} {lost : Nat → Bool} (h : (rpIn (N : Int) && wnIn (V : Int)) = true) (hV : 1 ≤ V) : gbO N V lost = (rnS (bkR N V) bkA lost 301 0 []).map Prod.fst := by
  unfold gbO
  rw [if_pos h, bk_run hV, Int.toNat_natCast, Int.toNat_natCast]
  show _ = (gbRun N V lost 301 0 0).map fun R => [] ++ R
  simp
theorem srO_rn {N V : Nat} {lost : Nat → Bool} (h : (rpIn (N : Int) && wnIn (V : Int)) = true) (hV : 1 ≤ V) : srO N V lost = (rnS (slR N V) slA lost 301 (fun _ => false) []).map Prod.fst := by
  unfold srO
  rw [if_pos h, sl_run hV 301 0 _ [] (srAt_zero N), Int.toNat_natCast, Int.toNat_natCast]
  show _ = (srRun N V lost 301 0 (fun _ => false) 0).map fun R => [] ++ R
  simp
theorem gbO_no {n v : Int} {lost : Nat → Bool} (h : (rpIn n && wnIn v) = false) : gbO n v lost = none := by unfold gbO; rw [if_neg (by rw [h]; simp)]
theorem srO_no {n v : Int} {lost : Nat → Bool} (h : (rpIn n && wnIn v) = false) : srO n v lost = none := by unfold srO; rw [if_neg (by rw [h]; simp)]
set_option maxRecDepth 10000 in
set_option maxHeartbeats 1000000 in
theorem goBack_any (n v : Int) (al : Option Addr) (cl : Nat) (ls : List Bool) (w : World) (hl : Bls w w.heap.size al ls) :
    Calls Try.prog 26 #[.int .i64 n, .int .i64 v, .slice al ls.length cl] w (OptP (gbO n v (bt ls)) w) := by
  cases hok : rpIn n && wnIn v
  · have HI := Lib.hid (windowValid_is n v false w hok)
    rw [gbO_no hok]
    clear hok
    go_enter Try.func26, Try.ntmps26
    go_wp2_with (go_at_call 53; ((with_reducible refine HI.out.mono ?_); rintro e w1 ⟨rfl, rfl⟩))
    go_ret2
    exact pairP_nil (Below.refl _ _)
  · have HI := Lib.hid (windowValid_is n v true w hok)
    obtain ⟨h1, h2⟩ : rpIn n = true ∧ wnIn v = true := by simpa using hok
    obtain ⟨N, rfl, hN⟩ := rpIn_nat h1
    obtain ⟨V, rfl, hV1, hV8⟩ := wnIn_nat h2
    obtain ⟨O, hO⟩ : ∃ O, O = gbO N V (bt ls) := ⟨_, rfl⟩
    have HE := Lib.hid (hO.trans (gbO_rn (lost := bt ls) hok hV1))
    rw [← hO]
    have hb := alloc_belowX w (.cells #[.int .i64 (N : Int), .int .i64 (V : Int), .int .i64 0] 73)
    have HB := Lib.hid hb
    have HS := Lib.hid (sendBk_any (w.alloc (.cells #[.int .i64 (N : Int), .int .i64 (V : Int), .int .i64 0] 73)) w.heap.size N V 0 al cl ls ⟨box3_new _ _ _ _ _, hN, ⟨hV1, hV8⟩, Nat.zero_le _⟩ (hl.below hb))
    clear hok h1 h2 hl hb hO
    go_enter Try.func26, Try.ntmps26
    go_wp2_with (first
      | (go_at_call 53; ((with_reducible refine HI.out.mono ?_); rintro e w1 ⟨rfl, rfl⟩))
      | (go_at_call 50; ((with_reducible refine HS.out.mono ?_); rintro e w2 h2; have H2 := Lib.hid (show OptP O w _ w2 by rw [HE.out]; exact optP_send h2 (Nat.le_refl _) HB.out); clear h2; obtain ⟨v2, c2, rfl, hc2, o2, b2⟩ := H2.out; have HC2 := Lib.hid hc2; have O2 := Lib.hid o2; have B2 := Lib.hid b2; clear hc2 o2 b2)))
    go_ret2
    exact ⟨v2, c2, rfl, HC2.out, O2.out, B2.out⟩
set_option maxRecDepth 10000 in
theorem Try.infoBool1 : (Try.prog.info? 4).map (fun i => (i.zero, i.size, i.bytes)) = some (some (.bool false), 1, 1) := by kernel_rfl
set_option maxRecDepth 10000 in
theorem makeB (n : Nat) (hn : n ≤ 1000000) (w : World) : (Instr.makeSlice 31 (.int .i64 (n : Int)) (.int .i64 (n : Int))).run Try.prog w = .ok (.slice (some ⟨w.heap.size, 0, none⟩) n n) (w.alloc (.cells (madeCells #[.bool false] n) 4)) :=
  run_make_row' (P := Try.prog) 31 4 (.bool false) 1 Try.underlying31 Try.infoBool1 rfl .i64 .i64 n (by omega) (by omega) w
set_option maxRecDepth 10000 in
theorem slM_new (w : World) (N V : Nat) (hN : N ≤ 30) (hV : 1 ≤ V ∧ V ≤ 8) : SlM ((w.alloc (.cells (madeCells #[.bool false] N) 4)).alloc (.cells #[.int .i64 (V : Int), .slice (some ⟨w.heap.size, 0, none⟩) N N] 76)) w.heap.size N V (fun _ => false) :=
  ⟨(World.rowIs_made w (.bool false) N 4).of_block (Below.heap_alloc _ _ _ (by simp)), by
    refine ⟨#[.int .i64 (V : Int), .slice (some ⟨w.heap.size, 0, none⟩) N N], heap_last2 w _ _, rfl, fun i hi => ?_⟩
    match i, hi with
    | 0, _ => rfl
    | 1, _ => rfl, hN, hV⟩
set_option maxRecDepth 10000 in
set_option maxHeartbeats 1000000 in
theorem selectRepeat_any (n v : Int) (al : Option Addr) (cl : Nat) (ls : List Bool) (w : World) (hl : Bls w w.heap.size al ls) :
    Calls Try.prog 29 #[.int .i64 n, .int .i64 v, .slice al ls.length cl] w (OptP (srO n v (bt ls)) w) := by
  cases hok : rpIn n && wnIn v
  · have HI := Lib.hid (windowValid_is n v false w hok)
    rw [srO_no hok]
    clear hok
    go_enter Try.func29, Try.ntmps29
    go_wp2_with (go_at_call 53; ((with_reducible refine HI.out.mono ?_); rintro e w1 ⟨rfl, rfl⟩))
    go_ret2
    exact pairP_nil (Below.refl _ _)
  · have HI := Lib.hid (windowValid_is n v true w hok)
    obtain ⟨h1, h2⟩ : rpIn n = true ∧ wnIn v = true := by simpa using hok
    obtain ⟨N, rfl, hN⟩ := rpIn_nat h1
    obtain ⟨V, rfl, hV1, hV8⟩ := wnIn_nat h2
    obtain ⟨O, hO⟩ : ∃ O, O = srO N V (bt ls) := ⟨_, rfl⟩
    have HE := Lib.hid (hO.trans (srO_rn (lost := bt ls) hok hV1))
    rw [← hO]
    have hb : Below w.heap.size w ((w.alloc (.cells (madeCells #[.bool false] N) 4)).alloc (.cells #[.int .i64 (V : Int), .slice (some ⟨w.heap.size, 0, none⟩) N N] 76)) := ((Below.refl _ _).alloc (Nat.le_refl _) _).alloc (by simp) _
    have HB := Lib.hid hb
    have HS := Lib.hid (sendSl_any ((w.alloc (.cells (madeCells #[.bool false] N) 4)).alloc (.cells #[.int .i64 (V : Int), .slice (some ⟨w.heap.size, 0, none⟩) N N] 76)) w.heap.size N V (fun _ => false) al cl ls (slM_new w N V hN ⟨hV1, hV8⟩) (hl.below hb))
    have hmk := makeB N (by omega)
    clear hok h1 h2 hl hb hO
    go_enter Try.func29, Try.ntmps29
    go_wp2_with (first
      | (go_at_call 53; ((with_reducible refine HI.out.mono ?_); rintro e w1 ⟨rfl, rfl⟩))
      | (go_at_call 50; ((with_reducible refine HS.out.mono ?_); rintro e w2 h2; have H2 := Lib.hid (show OptP O w _ w2 by rw [HE.out]; exact optP_send h2 (Nat.le_refl _) HB.out); clear h2; obtain ⟨v2, c2, rfl, hc2, o2, b2⟩ := H2.out; have HC2 := Lib.hid hc2; have O2 := Lib.hid o2; have B2 := Lib.hid b2; clear hc2 o2 b2)))
    go_ret2
    exact ⟨v2, c2, rfl, HC2.out, O2.out, B2.out⟩
def fnLs (f : Nat → Int) (n : Nat) : List Int := (List.range n).map f
theorem fnLs_len (f : Nat → Int) (n : Nat) : (fnLs f n).length = n := by simp [fnLs]
theorem fnLs_el {f : Nat → Int} {n k : Nat} (h : k < n) : el (fnLs f n) k = f k := by simp [el, fnLs, h]
set_option maxRecDepth 10000 in
theorem own_rowF {w : World} {b n B : Nat} {f : Nat → Int} (h : RowF w b n f) (hB : B ≤ b) : OwnInts .i64 3 w B (some ⟨b, 0, none⟩) (fnLs f n) := fun _ => by
  obtain ⟨cap, g, h1, h2, h3⟩ := h
  exact ⟨b, cap, rfl, hB, by rw [fnLs_len]; exact h1, g, h2, fun i hi => by rw [fnLs_len] at hi; rw [h3 i hi, fnLs_el hi]⟩
theorem swL_no {n : Int} {lost un : Nat → Bool} (h : swB n lost un = false) : swL n lost un = [] ∧ swM n lost un = 0 := by
  unfold swL swM
  rw [h]
  exact ⟨rfl, rfl⟩
theorem swL_yes {N : Nat} {lost un : Nat → Bool} (h : swB (N : Int) lost un = true) : swL N lost un = fnLs (fun j => (swC lost un (swT N lost un 300) j : Int)) N ∧ swM N lost un = (swT N lost un 300 : Nat) := by
  unfold swL swM swN
  rw [h, Int.toNat_natCast]
  exact ⟨rfl, rfl⟩
/-- What StopAndWait answers. -/
def StopP (n : Int) (ls us : List Bool) (w : World) (e : Ending) (w' : World) : Prop := PairP (swL n (bt ls) (bt us)) (.int .i64 (swM n (bt ls) (bt us))) w e w'
set_option maxRecDepth 10000 in
theorem stM_new (w : World) (N : Nat) (au : Option Addr) (cu : Nat) (us ls : List Bool) (hN : N ≤ 30) (hu : Bls w w.heap.size au us) :
    StM ((w.alloc (.cells (madeCells #[.int .i64 0] N) 3)).alloc (.cells #[.slice (some ⟨w.heap.size, 0, none⟩) N N, .slice au us.length cu, .int .i64 0] 66)) w.heap.size N au cu us (stAt (bt ls) (bt us) 0) 0 := by
  refine ⟨((rowF_zeros w N).of_block (Below.heap_alloc _ _ _ (by simp))).congr fun i _ => rfl, ?_, (hu.below (((Below.refl _ _).alloc (Nat.le_refl _) _).alloc (by simp) _)), fun j => Nat.le_refl _, Nat.zero_le _, hN⟩
  have h := box3_new (w.alloc (.cells (madeCells #[.int .i64 0] N) 3)) 66 (.slice (some ⟨w.heap.size, 0, none⟩) N N) (.slice au us.length cu) (.int .i64 0)
  have e : (w.alloc (.cells (madeCells #[.int .i64 0] N) 3)).heap.size = w.heap.size + 1 := by simp
  rw [e] at h
  exact h
set_option maxRecDepth 10000 in
set_option maxHeartbeats 2000000 in
theorem stopAndWait_any (n : Int) (al au : Option Addr) (cl cu : Nat) (ls us : List Bool) (w : World) (hl : Bls w w.heap.size al ls) (hu : Bls w w.heap.size au us) :
    Calls Try.prog 23 #[.int .i64 n, .slice al ls.length cl, .slice au us.length cu] w (StopP n ls us w) := by
  unfold StopP
  cases hok : rpIn n
  · have HI := Lib.hid (messageCountValid_is n false w hok)
    obtain ⟨e1, e2⟩ := swL_no (n := n) (lost := bt ls) (un := bt us) (by unfold swB; rw [hok]; rfl)
    rw [e1, e2]
    clear hok e1 e2
    go_enter Try.func23, Try.ntmps23
    go_wp2_with (go_at_call 49; ((with_reducible refine HI.out.mono ?_); rintro e w1 ⟨rfl, rfl⟩))
    go_ret2
    exact pairP_nil (Below.refl _ _)
  · have HI := Lib.hid (messageCountValid_is n true w hok)
    obtain ⟨N, rfl, hN⟩ := rpIn_nat hok
    obtain ⟨r1, r2⟩ := st_run (n := N) (lost := bt ls) (un := bt us) 301 0 [] rfl rfl (by omega) (fun u hu => absurd hu (Nat.not_lt_zero _))
    have HR1 := Lib.hid r1
    have HR2 := Lib.hid r2
    have hb : Below w.heap.size w ((w.alloc (.cells (madeCells #[.int .i64 0] N) 3)).alloc (.cells #[.slice (some ⟨w.heap.size, 0, none⟩) N N, .slice au us.length cu, .int .i64 0] 66)) := ((Below.refl _ _).alloc (Nat.le_refl _) _).alloc (by simp) _
    have HB := Lib.hid hb
    have HS := Lib.hid (sendSt_any ((w.alloc (.cells (madeCells #[.int .i64 0] N) 3)).alloc (.cells #[.slice (some ⟨w.heap.size, 0, none⟩) N N, .slice au us.length cu, .int .i64 0] 66)) w.heap.size N au cu us (stAt (bt ls) (bt us) 0) al cl ls (stM_new w N au cu us ls hN hu) (hl.below hb))
    have hmk := makeX N (by omega)
    by_cases hs : N ≤ swK (bt ls) (bt us) 300
    · obtain ⟨e1, e2⟩ := swL_yes (N := N) (lost := bt ls) (un := bt us) (by unfold swB; rw [hok, Int.toNat_natCast]; simpa using hs)
      rw [e1, e2]
      obtain ⟨T, hT⟩ : ∃ T, T = swT N (bt ls) (bt us) 300 := ⟨_, rfl⟩
      have HT := Lib.hid hT
      have HSY := Lib.hid hs
      rw [← hT]
      clear hok hl hu hb r1 r2 e1 e2 hs hT
      go_enter Try.func23, Try.ntmps23
      go_wp2_with (first
        | (go_at_call 49; ((with_reducible refine HI.out.mono ?_); rintro e w1 ⟨rfl, rfl⟩))
        | (go_at_call 50; ((with_reducible refine HS.out.mono ?_); rintro e w2 ⟨L, b, v2, c2, rfl, _, _, k2, h2⟩; obtain ⟨L', hL, hrun⟩ := HR1.out HSY.out; obtain ⟨rfl, s, hs2, m2⟩ : b = true ∧ ∃ s, some (L', stAt (bt ls) (bt us) (swT N (bt ls) (bt us) 300)) = some (L, s) ∧ StM w2 w.heap.size N au cu us s L.length := (by rcases h2 with ⟨h, s, h3, h4⟩ | ⟨_, _, h3⟩; exact ⟨h, s, hrun.symm.trans h3, h4⟩; exact absurd (hrun.symm.trans h3) (by simp)); injection hs2 with hs2; injection hs2 with e1 e2; subst e1 e2; rw [hL, ← HT.out] at m2 ⊢; rw [← HT.out] at hL; have M2 := Lib.hid m2; have K2 := Lib.hid (HB.out.trans (k2.mono' (Nat.le_refl _) HB.out.size)); have c0 := m2.box.c0; clear h2 hrun hL m2 k2)))
      go_ret2
      exact ⟨_, N, by rw [fnLs_len]; rfl, by rw [fnLs_len]; unfold maxLen; omega, own_rowF M2.out.row (Nat.le_refl _), K2.out⟩
    · obtain ⟨e1, e2⟩ := swL_no (n := (N : Int)) (lost := bt ls) (un := bt us) (by unfold swB; rw [Int.toNat_natCast]; simp; omega)
      rw [e1, e2]
      have HSN := Lib.hid (show swK (bt ls) (bt us) 300 < N by omega)
      clear hok hl hu hb r1 r2 e1 e2 hs
      go_enter Try.func23, Try.ntmps23
      go_wp2_with (first
        | (go_at_call 49; ((with_reducible refine HI.out.mono ?_); rintro e w1 ⟨rfl, rfl⟩))
        | (go_at_call 50; ((with_reducible refine HS.out.mono ?_); rintro e w2 ⟨L, b, v2, c2, rfl, _, _, k2, h2⟩; obtain rfl : b = false := (by rcases h2 with ⟨_, s, h3, _⟩ | ⟨h, _, _⟩; exact absurd ((HR2.out HSN.out).symm.trans h3) (by simp); exact h); have K2 := Lib.hid (HB.out.trans (k2.mono' (Nat.le_refl _) HB.out.size)); clear h2 k2)))
      go_ret2
      exact pairP_nil K2.out
end Go.Proofs.Ytenihedpbklmlaa
