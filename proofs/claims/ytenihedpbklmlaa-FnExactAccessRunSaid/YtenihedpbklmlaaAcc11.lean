/-
  What the model of AccessRun answers. Condition: a list that can be read.
-/
import Derived.Test.YtenihedpbklmlaaAcc10
import Derived.Test.YtenihedpbklmlaaRowF
namespace Go.Proofs.Ytenihedpbklmlaa
open Go.RowKit

/-- Those that act in a slot, ascending. -/
def actL (t : Nat) (S : Nat → AcSd) : Nat → List Int
  | 0 => []
  | k + 1 => if acts t (S k) then actL t S k ++ [(k : Int)] else actL t S k
theorem actL_next (t : Nat) (S : Nat → AcSd) (k : Nat) : actL t S (k + 1) = if acts t (S k) then actL t S k ++ [(k : Int)] else actL t S k := rfl
theorem actL_len (t : Nat) (S : Nat → AcSd) : ∀ n, (actL t S n).length = acN t S n
  | 0 => rfl
  | n + 1 => by
    rw [actL_next, acN]
    cases acts t (S n)
    · simpa using actL_len t S n
    · simpa using actL_len t S n
theorem acN_bound (t : Nat) (S : Nat → AcSd) : ∀ n, acN t S n ≤ n
  | 0 => Nat.le_refl _
  | n + 1 => by
    have := acN_bound t S n
    rw [acN]
    cases acts t (S n)
    · simp; omega
    · simp; omega
theorem actL_at {t : Nat} {S : Nat → AcSd} : ∀ {n i : Nat}, i < acN t S n → ∃ k, k < n ∧ el (actL t S n) i = (k : Int) ∧ acts t (S k) = true ∧ acN t S k = i
  | 0, i, h => absurd h (Nat.not_lt_zero _)
  | n + 1, i, h => by
    have hl := actL_len t S n
    rw [actL_next]
    rw [acN] at h
    cases ha : acts t (S n)
    · rw [ha] at h
      obtain ⟨k, h1, h2, h3, h4⟩ := actL_at (t := t) (S := S) (n := n) (i := i) (by simpa using h)
      exact ⟨k, by omega, by simpa using h2, h3, h4⟩
    · rw [if_pos rfl]
      by_cases e : i < acN t S n
      · obtain ⟨k, h1, h2, h3, h4⟩ := actL_at (t := t) (S := S) (n := n) (i := i) e
        refine ⟨k, by omega, ?_, h3, h4⟩
        rw [← h2]
        simp [el, List.getElem?_append_left (show i < (actL t S n).length by omega)]
      · rw [ha] at h
        simp only [Bool.toNat_true] at h
        obtain rfl : i = (actL t S n).length := by omega
        exact ⟨n, by omega, by simp [el], ha, hl.symm⟩
/-- The senders below b have lived through the slot, the others not yet. -/
def acMid (n t : Nat) (S : Nat → AcSd) (b k : Nat) : AcSd := if k < b then acS n t S k else S k
theorem acS_idle {n t k : Nat} {S : Nat → AcSd} (h : acts t (S k) = false) : acS n t S k = S k := by unfold acS; rw [h]; rfl
theorem acN_idle {t : Nat} {S : Nat → AcSd} {p q j : Nat} (h : acN t S p = acN t S q) (hp : p ≤ j) (hq : j < q) : acts t (S j) = false := by
  have h1 := acN_le (t := t) (S := S) hp
  have h2 := acN_le (t := t) (S := S) (m := j + 1) (n := q) (by omega)
  rw [acN] at h2
  rw [Bool.eq_false_iff]
  intro h3
  rw [h3] at h2
  simp only [Bool.toNat_true] at h2
  omega
theorem acMid_same {n t p q : Nat} {S : Nat → AcSd} (h : acN t S p = acN t S q) (j : Nat) : acMid n t S p j = acMid n t S q j := by
  unfold acMid
  by_cases hp : j < p
  · by_cases hq : j < q
    · rw [if_pos hp, if_pos hq]
    · rw [if_pos hp, if_neg hq]
      exact acS_idle (acN_idle h.symm (by omega) hp)
  · by_cases hq : j < q
    · rw [if_neg hp, if_pos hq]
      exact (acS_idle (acN_idle h (by omega) hq)).symm
    · rw [if_neg hp, if_neg hq]
theorem acMid_zero (n t : Nat) (S : Nat → AcSd) (j : Nat) : acMid n t S 0 j = S j := rfl
theorem acMid_end {n t : Nat} {S : Nat → AcSd} {j : Nat} (h : j < n) : acMid n t S n j = acS n t S j := if_pos h
theorem acMid_at (n t : Nat) (S : Nat → AcSd) (k : Nat) : acMid n t S k k = S k := if_neg (Nat.lt_irrefl _)
theorem acMid_hit {n t k : Nat} {S : Nat → AcSd} (ha : acts t (S k) = true) (h1 : acN t S n = 1) (j : Nat) : acMid n t S (k + 1) j = if j = k then acHit t (S k) else acMid n t S k j := by
  unfold acMid
  by_cases e : j = k
  · subst e
    rw [if_pos (by omega), if_pos rfl]
    unfold acS
    rw [ha, if_pos rfl, if_pos h1]
  · rw [if_neg e]
    by_cases h : j < k
    · rw [if_pos (by omega), if_pos h]
    · rw [if_neg (by omega), if_neg h]
theorem acMid_miss {n t k : Nat} {S : Nat → AcSd} (ha : acts t (S k) = true) (h1 : acN t S n ≠ 1) (j : Nat) : acMid n t S (k + 1) j = if j = k then acMiss t (S k) else acMid n t S k j := by
  unfold acMid
  by_cases e : j = k
  · subst e
    rw [if_pos (by omega), if_pos rfl]
    unfold acS
    rw [ha, if_pos rfl, if_neg h1]
  · rw [if_neg e]
    by_cases h : j < k
    · rw [if_pos (by omega), if_pos h]
    · rw [if_neg (by omega), if_neg h]

/-- The model's four lists: seeds, next slots, failures, slots of success. -/
structure AcM (W : World) (nb wb fb ob n : Nat) (S : Nat → AcSd) : Prop where
  now : RowF W nb n (fun k => ((S k).seed : Int))
  whe : RowF W wb n (fun k => ((S k).at' : Int))
  fai : RowF W fb n (fun k => ((S k).bad : Int))
  got : RowF W ob n (fun k => (S k).got)
section
variable {W W' : World} {nb wb fb ob n t k : Nat} {S R : Nat → AcSd}
theorem AcM.congr (h : AcM W nb wb fb ob n S) (e : ∀ k, k < n → S k = R k) : AcM W nb wb fb ob n R :=
  ⟨h.now.congr fun i hi => by rw [e i hi], h.whe.congr fun i hi => by rw [e i hi], h.fai.congr fun i hi => by rw [e i hi], h.got.congr fun i hi => by rw [e i hi]⟩
theorem AcM.next {B : Nat} (h : AcM W nb wb fb ob n S) (hb : Below B W W') (h1 : nb < B) (h2 : wb < B) (h3 : fb < B) (h4 : ob < B) : AcM W' nb wb fb ob n S :=
  ⟨h.now.next hb h1, h.whe.next hb h2, h.fai.next hb h3, h.got.next hb h4⟩
theorem AcM.like (h : AcM W nb wb fb ob n S) (e : W'.heap = W.heap) : AcM W' nb wb fb ob n S := by
  have e1 : ∀ b : Nat, W'.heap[b]? = W.heap[b]? := fun b => by rw [e]
  exact ⟨h.now.of_block (e1 _), h.whe.of_block (e1 _), h.fai.of_block (e1 _), h.got.of_block (e1 _)⟩
theorem AcM.hit (h : AcM W nb wb fb ob n S) (o1 : nb < wb) (o2 : wb < fb) (o3 : fb < ob) (e : ∀ j, j < n → R j = if j = k then acHit t (S k) else S j) : AcM (W.setCell ⟨ob, k, none⟩ (.int .i64 (t : Int))) nb wb fb ob n R := by
  refine ⟨(h.now.congr fun i hi => ?_).other (by omega) _ _, (h.whe.congr fun i hi => ?_).other (by omega) _ _, (h.fai.congr fun i hi => ?_).other (by omega) _ _, h.got.put fun i hi => ?_⟩
  all_goals
    rw [e i hi]
    by_cases e2 : i = k
    · subst e2; simp [acHit]
    · simp [e2]
theorem AcM.miss (h : AcM W nb wb fb ob n S) (o1 : nb < wb) (o2 : wb < fb) (o3 : fb < ob) (e : ∀ j, j < n → R j = if j = k then acMiss t (S k) else S j) {f1 d1 : Nat} {v : Int} (hf : f1 = (acMiss t (S k)).bad) (hd : d1 = (acMiss t (S k)).seed) (hv : v = ((acMiss t (S k)).at' : Nat)) :
    AcM (((W.setCell ⟨fb, k, none⟩ (.int .i64 (f1 : Int))).setCell ⟨nb, k, none⟩ (.int .i64 (d1 : Int))).setCell ⟨wb, k, none⟩ (.int .i64 v)) nb wb fb ob n R := by
  refine ⟨((h.now.other (by omega) _ _).put fun i hi => ?_).other (by omega) _ _, ((h.whe.other (by omega) _ _).other (by omega) _ _).put fun i hi => ?_, ((h.fai.put fun i hi => ?_).other (by omega) _ _).other (by omega) _ _, (((h.got.congr fun i hi => ?_).other (by omega) _ _).other (by omega) _ _).other (by omega) _ _⟩
  all_goals
    rw [e i hi]
    by_cases e2 : i = k
    · subst e2; simp [hf, hd, hv, acMiss]
    · simp [e2]
end
/-- The numbers of one failure. -/
theorem missS_nums {t : Nat} {x : AcSd} (hd : x.seed < 2048) (ht : t ≤ 400) (hf : x.bad ≤ 500) : ∃ f1 d1 q : Nat, ∃ m u v : Int, (x.bad : Int) + 1 = (f1 : Int) ∧ nsOr (x.seed : Int) = (d1 : Int) ∧ boOr (d1 : Int) m = (q : Int) ∧ (t : Int) + 1 = u ∧ u + (q : Int) = v ∧
    (IntKind.i64.wrap (f1 : Int) = (f1 : Int) ∧ wrap64 (f1 : Int) = (f1 : Int)) ∧ (IntKind.i64.wrap u = u ∧ wrap64 u = u) ∧ (IntKind.i64.wrap v = v ∧ wrap64 v = v) ∧ ((100 : Int) < (f1 : Int) ∧ m = 100 ∨ ¬ (100 : Int) < (f1 : Int) ∧ m = (f1 : Int)) ∧
    f1 = (acMiss t x).bad ∧ d1 = (acMiss t x).seed ∧ v = ((acMiss t x).at' : Nat) := by
  have h1 := acBo_small (acNx x.seed) (min (x.bad + 1) 100)
  refine ⟨x.bad + 1, acNx x.seed, acBo (acNx x.seed) (min (x.bad + 1) 100), ((min (x.bad + 1) 100 : Nat) : Int), _, _, by omega, nsOr_nat hd, boOr_nat (acNx_lt _) (by omega) (by omega), rfl, rfl, ⟨wrapW (by omega), wrapW' (by omega)⟩, ⟨wrapW (by omega), wrapW' (by omega)⟩, ⟨wrapW (by omega), wrapW' (by omega)⟩, by omega, rfl, rfl, ?_⟩
  unfold acMiss
  simp only
  omega
theorem gotL_el {S : Nat → AcSd} {n k : Nat} (h : k < n) : el (gotL S n) k = (S k).got := by simp [el, gotL, h]
theorem rowF_post {w W : World} {b n cap : Nat} {S : Nat → AcSd} (h : RowF W b n (fun k => (S k).got)) (hc : n ≤ cap ∧ cap ≤ maxLen) (hb : w.heap.size ≤ b) (hbl : Below w.heap.size w W) : ListPostC (gotL S n) w (.returned (.slice (some ⟨b, 0, none⟩) n cap)) W := by
  obtain ⟨c, g, h1, h2, h3⟩ := h
  refine ⟨_, cap, by rw [gotL_len], by rw [gotL_len]; exact hc, fun _ => ⟨b, c, rfl, hb, by rw [gotL_len]; exact h1, g, h2, fun i hi => ?_⟩, hbl⟩
  rw [gotL_len] at hi
  rw [h3 i hi, gotL_el hi]
set_option maxRecDepth 10000 in
/-- What the model's lists are at the beginning. -/
theorem acStart {w1 : World} {B nb cn n : Nat} {xs : List Int} (hg : Grow .i64 3 w1 B (some ⟨nb, 0, none⟩) n cn xs) (hnb : nb < w1.heap.size) :
    RowF (((w1.alloc (.cells (madeCells #[.int .i64 0] n) 3)).alloc (.cells (madeCells #[.int .i64 0] n) 3)).alloc (.cells #[] 3)) nb n (fun i => el xs i) ∧
    RowF (((w1.alloc (.cells (madeCells #[.int .i64 0] n) 3)).alloc (.cells (madeCells #[.int .i64 0] n) 3)).alloc (.cells #[] 3)) w1.heap.size n (fun _ => 0) ∧
    RowF (((w1.alloc (.cells (madeCells #[.int .i64 0] n) 3)).alloc (.cells (madeCells #[.int .i64 0] n) 3)).alloc (.cells #[] 3)) (w1.heap.size + 1) n (fun _ => 0) ∧
    Grow .i64 3 (((w1.alloc (.cells (madeCells #[.int .i64 0] n) 3)).alloc (.cells (madeCells #[.int .i64 0] n) 3)).alloc (.cells #[] 3)) (w1.heap.size + 2) (some ⟨w1.heap.size + 2, 0, none⟩) 0 0 [] ∧
    Below w1.heap.size w1 (((w1.alloc (.cells (madeCells #[.int .i64 0] n) 3)).alloc (.cells (madeCells #[.int .i64 0] n) 3)).alloc (.cells #[] 3)) := by
  have hbl : Below w1.heap.size w1 (((w1.alloc (.cells (madeCells #[.int .i64 0] n) 3)).alloc (.cells (madeCells #[.int .i64 0] n) 3)).alloc (.cells #[] 3)) := (((Below.refl _ _).alloc (Nat.le_refl _) _).alloc (by simp) _).alloc (by simp; omega) _
  refine ⟨hg.rowF.next hbl hnb, ?_, ?_, ?_, hbl⟩
  · have h1 := rowF_zeros w1 n
    exact (h1.of_block (Below.heap_alloc _ _ _ (by simp))).of_block (Below.heap_alloc _ _ _ (by simp; omega))
  · have h1 := rowF_zeros (w1.alloc (.cells (madeCells #[.int .i64 0] n) 3)) n
    have e1 : (w1.alloc (.cells (madeCells #[.int .i64 0] n) 3)).heap.size = w1.heap.size + 1 := by simp
    rw [e1] at h1
    exact h1.of_block (Below.heap_alloc _ _ _ (by simp))
  · have h1 := Grow.lit0 .i64 3 ((w1.alloc (.cells (madeCells #[.int .i64 0] n) 3)).alloc (.cells (madeCells #[.int .i64 0] n) 3)) (w1.heap.size + 2) (by simp)
    have e1 : ((w1.alloc (.cells (madeCells #[.int .i64 0] n) 3)).alloc (.cells (madeCells #[.int .i64 0] n) 3)).heap.size = w1.heap.size + 2 := by simp
    rw [e1] at h1
    exact h1
theorem acM_zero {W : World} {nb wb fb ob n : Nat} {xs : List Int} (hv : svTo 2047 xs xs.length) (hn : n = xs.length) (h1 : RowF W nb n (fun i => el xs i)) (h2 : RowF W wb n (fun _ => 0)) (h3 : RowF W fb n (fun _ => 0)) (h4 : RowF W ob n (fun i => el (List.replicate n (-1)) i)) : AcM W nb wb fb ob n (acZero xs) := by
  subst hn
  refine ⟨h1.congr fun i hi => ?_, h2.congr fun i hi => rfl, h3.congr fun i hi => rfl, h4.congr fun i hi => ?_⟩
  · have := hv i hi
    show el xs i = ((el xs i).toNat : Int)
    omega
  · show el _ i = -1
    simp [el, hi]
set_option maxRecDepth 10000 in
set_option maxHeartbeats 8000000 in
theorem specAccessRun_any (a : Option Addr) (c : Nat) (xs : List Int) (w : World) (hx : Ints .i64 w w.heap.size a xs) :
    Calls Try.prog 16 #[.slice a xs.length c] w (ListPostC (acOr xs) w) := by
  have HX := Lib.hid hx
  have HG0 := Lib.hid (Grow.lit0 .i64 3 w w.heap.size (Nat.le_refl _))
  have HB0 := Lib.hid (alloc_belowX w (.cells #[] 3))
  have HXL := Lib.hid (hx.next HB0.out)
  clear hx
  by_cases hl : xs.length ≤ 8
  · have hl' : ¬ (8 : Int) < (xs.length : Int) := by omega
    have HL8 := Lib.hid hl
    clear hl
    go_enter Try.func16, Try.ntmps16
    go_wp2
    clear hl'
    go_loop [3] (fun i => ∃ k : Nat, k ≤ xs.length ∧ i = .int .i64 k ∧ svTo 2047 xs k) (fun i => xs.length - (intOf i).toNat)
    case atStart => exact ⟨0, Nat.zero_le _, rfl, fun i hi => absurd hi (by omega)⟩
    case round =>
      obtain ⟨k, hk, rfl, hsv⟩ := hrel
      have HSV := Lib.hid hsv
      have h8 := HL8.out
      clear hsv
      by_cases hlt : k < xs.length
      · obtain ⟨b, off, e1, hb, hcs⟩ := HX.out (by intro e; rw [e] at hlt; simp at hlt)
        subst e1
        have hc := hcs k hlt
        clear hcs
        by_cases hin : 0 ≤ el xs k ∧ el xs k ≤ 2047
        · have HI := Lib.hid (fun W => betwS_is (el xs k) 0 2047 true W (decide_eq_true hin))
          have HSV2 := Lib.hid (svTo_next HSV.out hin)
          clear hin
          go_wp2_with (go_at_call 44; ((with_reducible refine (HI.out _).mono ?_); rintro e w1 ⟨rfl, rfl⟩))
          go_round
          case rel => exact ⟨k + 1, by omega, by go_num, HSV2.out⟩
          case measure => simp [intOf]; omega
        · have HI := Lib.hid (fun W => betwS_is (el xs k) 0 2047 false W (decide_eq_false hin))
          have HE := Lib.hid (acOr_no (xs := xs) (by rw [← svOk_ac]; exact svOk_no fun h' => hin (h'.2 k hlt)))
          clear hin
          go_wp2_with (go_at_call 44; ((with_reducible refine (HI.out _).mono ?_); rintro e w1 ⟨rfl, rfl⟩))
          go_ret
          rw [HE.out]
          exact listPostC_grow HG0.out HB0.out
      · obtain rfl : xs.length = k := by omega
        have HOK := Lib.hid (show acOk xs = true by rw [← svOk_ac]; exact (svOk_iff 2047 xs).2 ⟨HL8.out, HSV.out⟩)
        have HE := Lib.hid (acOr_got HOK.out)
        have hmk := makeX xs.length (by omega)
        go_wp2_with (at_builtin; refine wpList_appendA (.tmp 31) (.tmp 32) w.heap.size (some ⟨w.heap.size, 0, none⟩) a 0 0 xs.length c (w.alloc (.cells #[] 3)).heap.size [] xs rfl rfl rfl rfl HG0.out HXL.out rfl (by omega) (by simp) ?_; intro a4 cap4 w4 hg4 hb4 hn4; rw [Nat.zero_add, List.nil_append] at hg4; obtain ⟨nb, rfl, hnb, hnl⟩ := hg4.addr1 (hn4.resolve_right (by simp)); have HST := Lib.hid (acStart hg4 hnl); have HB4 := Lib.hid (HB0.out.trans hb4); clear hg4 hb4 hn4)
        obtain ⟨hr1, hr2, hr3, hg0, hbl⟩ := HST.out
        have hs4 : w.heap.size ≤ w4.heap.size := HB4.out.size
        have HB5 := Lib.hid (HB4.out.trans (hbl.mono hs4))
        have HS4 := Lib.hid hs4
        have HNB := Lib.hid (And.intro hnb hnl)
        clear HST HB4 hbl hs4 hmk HXL HG0 HB0 hnb hnl
        generalize ((w4.alloc (.cells (madeCells #[.int .i64 0] xs.length) 3)).alloc (.cells (madeCells #[.int .i64 0] xs.length) 3)).alloc (.cells #[] 3) = u at hr1 hr2 hr3 hg0 HB5 ⊢
        generalize w4.heap.size = s at hr1 hr2 hr3 hg0 HS4 HNB ⊢
        obtain ⟨n, hn⟩ : ∃ n, n = xs.length := ⟨_, rfl⟩
        have HN := Lib.hid hn
        have HSV := Lib.hid HSV.out
        rw [← hn] at hr1 hr2 hr3 HE h8 ⊢
        have R1 := Lib.hid hr1
        have R2 := Lib.hid hr2
        have R3 := Lib.hid hr3
        have G0 := Lib.hid hg0
        have hus : s + 2 ≤ u.heap.size := hr3.lt
        have hul : s + 2 < u.heap.size := by
          obtain ⟨b9, e9, _, h9⟩ := hg0.addr1 (by simp)
          injection e9 with e9
          injection e9 with e9
          omega
        clear hn hr1 hr2 hr3 hg0
        go_loopw [7, 8] (fun o i wr => ∃ (k cap ob : Nat), k ≤ n ∧ i = .int .i64 k ∧ o = .slice (some ⟨ob, 0, none⟩) k cap ∧ s + 2 ≤ ob ∧ Grow .i64 3 wr (s + 2) (some ⟨ob, 0, none⟩) k cap (List.replicate k (-1)) ∧ ob < wr.heap.size ∧ Below (s + 2) u wr) (fun _ i _ => n - (intOf i).toNat)
        case atStart => exact ⟨0, 0, s + 2, Nat.zero_le _, rfl, rfl, Nat.le_refl _, G0.out, hul, Below.refl _ _⟩
        case round =>
          obtain ⟨k, cap, ob, hk, rfl, rfl, hob, hgr, hol, hbr⟩ := hrel
          have HG := Lib.hid hgr
          have HR := Lib.hid hbr
          have hsz : s + 2 ≤ wr.heap.size := Nat.le_trans hus hbr.size
          clear hgr hbr
          by_cases hlt : k < n
          · go_wp2_with (at_builtin; refine wpList_append1 (.tmp 47) (.tmp 48) (s + 2) (some ⟨ob, 0, none⟩) k cap (List.replicate k (-1)) ⟨wr.heap.size, 0, none⟩ (-1) rfl rfl rfl rfl (HG.out.alloc _) (by simp) (by omega) (by simp; omega) ?_; intro a2 cap2 w6 hg2 hb2; obtain ⟨o2, rfl, ho2, hl2⟩ := hg2.addr1 (by obtain ⟨ad, e⟩ := hg2.addr; rw [e]; simp); have HG2 := Lib.hid hg2; have HB2 := Lib.hid (HR.out.trans ((Below.alloc (Below.refl _ _) (Nat.le_refl _) _).mono hsz |>.trans hb2)); clear hg2 hb2)
            go_roundw
            case rel => exact ⟨k + 1, cap2, o2, by omega, by go_num, rfl, ho2, by rw [List.replicate_succ']; exact HG2.out, hl2, HB2.out⟩
            case measure => simp [intOf]; omega
          · obtain rfl : n = k := by omega
            obtain ⟨hnb, hnl⟩ := HNB.out
            have HA0 := Lib.hid (acM_zero HSV.out HN.out (R1.out.next HR.out (by omega)) (R2.out.next HR.out (by omega)) (R3.out.next HR.out (by omega)) HG.out.rowF)
            have HCap := Lib.hid HG.out.room
            have HBL := Lib.hid (HB5.out.trans (HR.out.mono (by have := HS4.out; omega)))
            have HNS := Lib.hid (And.intro hnl hob)
            have hws : w.heap.size ≤ nb := hnb
            clear R1 R2 R3 G0 HB5 HG HR HNB hus hul hsz hol hnb hnl hob
            generalize wr = u1 at HA0 HBL ⊢
            go_wp2
            go_loopw [9] (fun i wr => ∃ t : Nat, t ≤ 400 ∧ i = .int .i64 t ∧ AcM wr nb s (s + 1) ob n (acRun n (acZero xs) t) ∧ Below w.heap.size w wr) (fun i _ => 400 - (intOf i).toNat)
            case atStart => exact ⟨0, Nat.zero_le _, rfl, HA0.out, HBL.out⟩
            case round =>
              obtain ⟨t, ht, rfl, ha, hbl⟩ := hrel
              have HA := Lib.hid ha
              have HB := Lib.hid hbl
              have hobl : ob < wr.heap.size := ha.got.lt
              clear ha hbl HA0 HBL
              by_cases ht4 : t < 400
              · have htI : (t : Int) < 400 := by omega
                obtain ⟨S, hS⟩ : ∃ S, S = acRun n (acZero xs) t := ⟨_, rfl⟩
                have HSe := Lib.hid hS
                have HIn : Hid (AcIn S n) := Lib.hid (by rw [hS, HN.out]; exact acIn_run HSV.out t)
                rw [← hS] at HA
                have HL0 := Lib.hid (Grow.lit0 .i64 3 wr wr.heap.size (Nat.le_refl _))
                have HA1 := Lib.hid (HA.out.next (alloc_belowX wr (.cells #[] 3)) (by have := HNS.out; omega) (by have := HNS.out; omega) (by have := HNS.out; omega) hobl)
                have HB1 := Lib.hid (Below.next HB.out (by have := HNS.out; omega) (alloc_belowX wr (.cells #[] 3)))
                have hq1 : wr.heap.size ≤ (wr.alloc (.cells #[] 3)).heap.size := by simp
                clear hS HA HB
                go_wp2
                clear htI
                generalize wr.alloc (.cells #[] 3) = v1 at HL0 HA1 HB1 hq1 ⊢
                generalize wr.heap.size = q at HL0 hobl hq1 ⊢
                have HQ := Lib.hid (show ob < q ∧ q ≤ v1.heap.size from ⟨hobl, hq1⟩)
                clear hobl
                go_loopw [10, 11] (fun o i ws => ∃ (k m cap : Nat) (ad : Option Addr), k ≤ n ∧ i = .int .i64 k ∧ o = .slice ad m cap ∧ m ≤ k ∧ Grow .i64 3 ws q ad m cap (actL t S k) ∧ Below q v1 ws) (fun _ i _ => n - (intOf i).toNat)
                case atStart => exact ⟨0, 0, 0, _, Nat.zero_le _, rfl, rfl, Nat.le_refl _, HL0.out, Below.refl _ _⟩
                case round =>
                  obtain ⟨k, m, cap, ad, hk, rfl, rfl, hmk, hgr, hbr⟩ := hrel
                  have HG := Lib.hid hgr
                  have HR := Lib.hid hbr
                  have hsz : q ≤ wr.heap.size := Nat.le_trans hq1 hbr.size
                  have HA2 := Lib.hid (HA1.out.next hbr (by have := HNS.out; have := HQ.out; omega) (by have := HNS.out; have := HQ.out; omega) (by have := HNS.out; have := HQ.out; omega) HQ.out.1)
                  clear hgr hbr
                  by_cases hlt : k < n
                  · have cg := HA2.out.got.cell hlt
                    have cw := HA2.out.whe.cell hlt
                    obtain ⟨g, hg⟩ : ∃ g, g = (S k).got := ⟨_, rfl⟩
                    obtain ⟨pw, hp⟩ : ∃ pw, pw = (S k).at' := ⟨_, rfl⟩
                    have HAC := Lib.hid (show acts t (S k) = (decide (g < 0) && decide (pw = t)) by rw [hg, hp]; rfl)
                    rw [← hg] at cg
                    rw [← hp] at cw
                    have HNX := Lib.hid (actL_next t S k)
                    clear hg hp
                    by_cases h0 : g < 0
                    · by_cases h1 : pw = t
                      · have z1 : ((pw : Int) == (t : Int)) = true := by simp [h1]
                        have HT : Hid (acts t (S k) = true) := Lib.hid (by rw [HAC.out]; simp [h0, h1])
                        clear h1
                        go_wp2_with (at_builtin; refine wpList_append1 (.tmp 74) (.tmp 76) q ad m cap (actL t S k) ⟨wr.heap.size, 0, none⟩ (k : Int) rfl rfl rfl rfl (HG.out.alloc _) (by simp) (by omega) (by simp; omega) ?_; intro a2 cap2 w6 hg2 hb2; have HG2 := Lib.hid hg2; have HB2 := Lib.hid (HR.out.trans ((Below.alloc (Below.refl _ _) (Nat.le_refl _) _).mono hsz |>.trans hb2)); clear hg2 hb2)
                        go_roundw
                        case rel => exact ⟨k + 1, m + 1, cap2, a2, by omega, by go_num, rfl, by omega, by rw [HNX.out, HT.out, if_pos rfl]; exact HG2.out, HB2.out⟩
                        case measure => simp [intOf]; omega
                      · have z1 : ((pw : Int) == (t : Int)) = false := by simp; omega
                        have HT : Hid (acts t (S k) = false) := Lib.hid (by rw [HAC.out]; simp [h1])
                        clear h1
                        go_wp2
                        go_roundw
                        case rel => exact ⟨k + 1, m, cap, ad, by omega, by go_num, rfl, by omega, by rw [HNX.out, HT.out]; exact HG.out, HR.out⟩
                        case measure => simp [intOf]; omega
                    · have HT : Hid (acts t (S k) = false) := Lib.hid (by rw [HAC.out]; simp [h0])
                      go_wp2
                      go_roundw
                      case rel => exact ⟨k + 1, m, cap, ad, by omega, by go_num, rfl, by omega, by rw [HNX.out, HT.out]; exact HG.out, HR.out⟩
                      case measure => simp [intOf]; omega
                  · obtain rfl : n = k := by omega
                    have HM := Lib.hid (show m = acN t S n by rw [← actL_len]; exact HG.out.len.symm)
                    have HB2 := Lib.hid (HB1.out.trans (HR.out.mono (by have := HQ.out; have := HNS.out; omega)))
                    clear HA1 HB1 HL0 hq1 HR
                    generalize wr = v2 at HG HA2 HB2 hsz ⊢
                    have hm8 : m ≤ 8 := by omega
                    have HV2 := Lib.hid hsz
                    clear hmk hsz
                    go_wp2
                    go_loopw [12] (fun i ws => ∃ j p : Nat, i = .int .i64 j ∧ j ≤ m ∧ p ≤ n ∧ acN t S p = j ∧ AcM ws nb s (s + 1) ob n (acMid n t S p) ∧ KeptOut nb q v2 ws) (fun i _ => m - (intOf i).toNat)
                    case atStart => exact ⟨0, 0, rfl, Nat.zero_le _, Nat.zero_le _, rfl, HA2.out.congr fun _ _ => rfl, KeptOut.refl _ _ _⟩
                    case round =>
                      obtain ⟨j, p, rfl, hj, hp, hN, ha, hkp⟩ := hrel
                      have HK := Lib.hid hkp
                      have HN3 := Lib.hid hN
                      by_cases hlt : j < m
                      · obtain ⟨k, hk, hel, hact, hNk⟩ := actL_at (t := t) (S := S) (n := n) (i := j) (by rw [← HM.out]; exact hlt)
                        have HA3 := Lib.hid (ha.congr fun i _ => acMid_same (hN.trans hNk.symm) i)
                        have hgl : Grow .i64 3 wr q ad m cap (actL t S n) := HG.out.keep fun b h1 h2 => hkp.block b h2 (.inr h1)
                        obtain ⟨lb, lo, rfl, hlb, hlc⟩ := hgl.ints.at_ (i := j) (by rw [hgl.len]; exact hlt)
                        rw [hel] at hlc
                        have cb := HA3.out.fai.cell hk
                        have cs := HA3.out.now.cell hk
                        have cgt := HA3.out.got.cell hk
                        have fgt := HA3.out.got.frozen k
                        rw [acMid_at] at cb cs cgt
                        have HNk := Lib.hid (show acN t S (k + 1) = j + 1 by rw [acN, hact, hNk]; rfl)
                        have HAct := Lib.hid hact
                        have hkI : (k : Int) < (n : Int) := by omega
                        have hjI : (j : Int) < (m : Int) := by omega
                        clear ha hkp hel hN hNk hgl hlb hact
                        by_cases hm1 : m = 1
                        · have z1 : ((m : Int) == 1) = true := by simp [hm1]
                          have HE2 := Lib.hid (HA3.out.hit (k := k) (t := t) (R := acMid n t S (k + 1)) (by have := HNS.out; omega) (by omega) (by have := HNS.out; omega) (fun i _ => by rw [acMid_at]; exact acMid_hit HAct.out (HM.out.symm.trans hm1) i))
                          have HK2 := Lib.hid (keptOut_trans HK.out (keptOut_set (A := nb) (E := q) (b := ob) wr k (.int .i64 (t : Int)) (by have := HNS.out; omega) HQ.out.1))
                          clear hm1
                          go_wp2
                          go_roundw
                          case rel => exact ⟨j + 1, k + 1, by go_num, by omega, by omega, HNk.out, HE2.out, HK2.out⟩
                          case measure => simp [intOf]; omega
                        · have z1 : ((m : Int) == 1) = false := by simp; omega
                          have hat : (S k).at' = t := by
                            have h := HAct.out
                            simp only [acts, Bool.and_eq_true, decide_eq_true_eq] at h
                            exact h.2
                          obtain ⟨hsd, hbd⟩ := HIn.out k hk
                          obtain ⟨f1, d1, qq, mm, uu, vv, e1, e2, e3, e4, e5, ⟨r1, r1'⟩, ⟨r2, r2'⟩, ⟨r3, r3'⟩, hmn, hf1, hd1, hv1⟩ := missS_nums (t := t) (x := S k) hsd ht (by omega)
                          have HE2 := Lib.hid (HA3.out.miss (k := k) (t := t) (R := acMid n t S (k + 1)) (f1 := f1) (d1 := d1) (v := vv) (by have := HNS.out; omega) (by omega) (by have := HNS.out; omega) (fun i _ => by rw [acMid_at]; exact acMid_miss HAct.out (fun e => hm1 (HM.out.trans e)) i) (by rw [acMid_at]; exact hf1) (by rw [acMid_at]; exact hd1) (by rw [acMid_at]; exact hv1))
                          have HK2 := Lib.hid (keptOut_trans (keptOut_trans (keptOut_trans HK.out (keptOut_set (A := nb) (E := q) (b := s + 1) wr k (.int .i64 (f1 : Int)) (by have := HNS.out; omega) (by have := HQ.out; have := HNS.out; omega))) (keptOut_set (A := nb) (E := q) (b := nb) _ k (.int .i64 (d1 : Int)) (Nat.le_refl _) (by have := HQ.out; have := HNS.out; omega))) (keptOut_set (A := nb) (E := q) (b := s) _ k (.int .i64 vv) (by have := HNS.out; omega) (by have := HQ.out; have := HNS.out; omega)))
                          have fb0 := HA3.out.fai.frozen k
                          have N1 := HA3.out.now.other (c := s + 1) (by have := HNS.out; omega) k (.int .i64 (f1 : Int))
                          have n1 := N1.cell hk
                          rw [acMid_at] at n1
                          have g1 := N1.frozen k
                          have n2 := (N1.put (k := k) (v := (d1 : Int)) (h := fun i => if i = k then (d1 : Int) else ((acMid n t S k i).seed : Int)) (fun _ _ => rfl)).cell hk
                          rw [if_pos rfl] at n2
                          have n3 := ((HA3.out.fai.put (k := k) (v := (f1 : Int)) (h := fun i => if i = k then (f1 : Int) else ((acMid n t S k i).bad : Int)) (fun _ _ => rfl)).other (c := nb) (by have := HNS.out; omega) k (.int .i64 (d1 : Int))).cell hk
                          rw [if_pos rfl] at n3
                          have g3 := ((HA3.out.whe.other (c := s + 1) (by omega) k (.int .i64 (f1 : Int))).other (c := nb) (by have := HNS.out; omega) k (.int .i64 (d1 : Int))).frozen k
                          have w3 := ((HA3.out.whe.other (c := s + 1) (by omega) k (.int .i64 (f1 : Int))).other (c := nb) (by have := HNS.out; omega) k (.int .i64 (d1 : Int))).cell hk
                          rw [acMid_at] at w3
                          have HNS2 := Lib.hid (fun W => specNextSeed_any ((S k).seed : Int) W)
                          have HBo := Lib.hid (fun W => specBackoffSlots_any (d1 : Int) mm W)
                          rw [e2] at HNS2
                          rw [e3] at HBo
                          clear e2 e3 hf1 hd1 hv1 hsd hbd hat N1 hm1
                          rcases hmn with ⟨hc, rfl⟩ | ⟨hc, rfl⟩
                          · go_wp2_with (go_at_call 45; ((with_reducible refine (HNS2.out _).mono ?_); rintro e w1 ⟨rfl, rfl⟩))
                            go_region_law (go_simp; go_at_call 46; ((with_reducible refine (HBo.out _).mono ?_); rintro e w2 ⟨rfl, rfl⟩))
                            all_goals
                              go_wp2
                              go_roundw
                              case rel => exact ⟨j + 1, k + 1, by go_num, by omega, by omega, HNk.out, HE2.out.like rfl, HK2.out.like rfl rfl rfl rfl⟩
                              case measure => simp [intOf]; omega
                          · have hif : (if (100 : Int) < (f1 : Int) then (100 : Int) else (f1 : Int)) = (f1 : Int) := if_neg hc
                            go_wp2_with (go_at_call 45; ((with_reducible refine (HNS2.out _).mono ?_); rintro e w1 ⟨rfl, rfl⟩))
                            go_region_law (go_simp; go_at_call 46; ((with_reducible refine (HBo.out _).mono ?_); rintro e w2 ⟨rfl, rfl⟩))
                            all_goals
                              go_wp2
                              go_roundw
                              case rel => exact ⟨j + 1, k + 1, by go_num, by omega, by omega, HNk.out, HE2.out.like rfl, HK2.out.like rfl rfl rfl rfl⟩
                              case measure => simp [intOf]; omega
                      · obtain rfl : m = j := by omega
                        have HE2 := Lib.hid (show AcM wr nb s (s + 1) ob n (acRun n (acZero xs) (t + 1)) from ha.congr fun i hi => by
                          rw [acMid_same (hN.trans HM.out) i, acMid_end hi, HSe.out]; rfl)
                        have HB3 := Lib.hid (HB2.out.trans ((hkp.below (by have := HV2.out; have := HQ.out; have := HNS.out; omega)).mono hws))
                        clear ha hkp hN
                        go_wp2
                        go_roundw
                        case rel => exact ⟨t + 1, by omega, by go_num, HE2.out, HB3.out⟩
                        case measure => simp [intOf]; omega
              · obtain rfl : t = 400 := by omega
                go_wp2
                go_ret
                rw [HE.out]
                exact rowF_post HA.out.got HCap.out (by have := HNS.out; omega) HB.out
  · have HE := Lib.hid (acOr_no (xs := xs) (by rw [← svOk_ac]; exact svOk_no fun h' => hl h'.1))
    have hl' : (8 : Int) < (xs.length : Int) := by omega
    clear hl
    go_enter Try.func16, Try.ntmps16
    go_wp2
    go_ret
    rw [HE.out]
    exact listPostC_grow HG0.out HB0.out
end Go.Proofs.Ytenihedpbklmlaa
