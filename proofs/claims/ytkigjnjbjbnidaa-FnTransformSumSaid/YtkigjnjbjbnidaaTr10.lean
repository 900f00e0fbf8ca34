/-
  What the models of BackwardTransform and CyclicProduct answer, for every list. Conditions: the lists can be read, their lengths can be.
-/
import Derived.Test.YtkigjnjbjbnidaaTr9
import Derived.BigQuiet
namespace Go.Proofs.Ytkigjnjbjbnidaa
open Go.RowKit

/-- A list whose numbers are being changed in place: its first k are done. -/
def mxL (f g : Nat → Int) (k : Nat) : List Int := l16 fun i => if i < k then f i else g i
theorem mxL_el (f g : Nat → Int) {k : Nat} (hk : k < 16) : el (mxL f g k) k = g k := by
  unfold mxL
  rw [l16_el hk, if_neg (Nat.lt_irrefl _)]
theorem mxL_next (f g : Nat → Int) {k i : Nat} (hi : i < 16) : el (mxL f g (k + 1)) i = if i = k then f k else el (mxL f g k) i := by
  unfold mxL
  rw [l16_el hi, l16_el hi]
  by_cases e : i = k
  · subst e; rw [if_pos rfl, if_pos (by omega)]
  · rw [if_neg e]
    by_cases h : i < k
    · rw [if_pos h, if_pos (by omega)]
    · rw [if_neg h, if_neg (by omega)]
theorem mxL_start (f : Nat → Int) (g : Nat → Int) : l16 g = mxL f g 0 := by
  unfold mxL
  exact l16_congr fun k _ => by rw [if_neg (Nat.not_lt_zero _)]
theorem mxL_done (f g : Nat → Int) : mxL f g 16 = l16 f := by
  unfold mxL
  exact l16_congr fun k hk => by rw [if_pos hk]
/-- Sixteen numbers lie at the beginning of a block of cap numbers. -/
def RowT (W : World) (b cap : Nat) (xs : List Int) : Prop := xs.length = 16 ∧ 16 ≤ cap ∧ ∃ f : Nat → Value, W.rowIs b 3 cap f ∧ ∀ i, i < 16 → f i = .int .i64 (el xs i)
section
variable {W : World} {b cap : Nat} {xs : List Int}
theorem RowT.cell (h : RowT W b cap xs) {k : Nat} (hk : k < 16) : W.cell? ⟨b, k, none⟩ = some (.int .i64 (el xs k)) := by
  obtain ⟨_, h2, f, h3, h4⟩ := h
  rw [h3.cell (by omega), h4 k hk]
theorem RowT.frozen (h : RowT W b cap xs) (k : Nat) : W.frozen? ⟨b, k, none⟩ = false := by
  obtain ⟨_, h2, f, h3, h4⟩ := h
  exact h3.frozen k
theorem RowT.step {f g : Nat → Int} {k : Nat} (h : RowT W b cap (mxL f g k)) : RowT (W.setCell ⟨b, k, none⟩ (.int .i64 (f k))) b cap (mxL f g (k + 1)) := by
  obtain ⟨_, h2, F, h3, h4⟩ := h
  refine ⟨l16_length _, h2, fun j => if j = k then .int .i64 (f k) else F j, (h3.set k (.int .i64 (f k))).congr (fun j _ => rfl), fun i hi => ?_⟩
  rw [mxL_next f g hi]
  by_cases e : i = k
  · subst e; simp
  · simp only [e, if_false]
    exact h4 i hi
theorem RowT.own (h : RowT W b cap xs) {B : Nat} (hB : B ≤ b) : OwnInts .i64 3 W B (some ⟨b, 0, none⟩) xs := fun _ => by
  obtain ⟨h1, h2, F, h3, h4⟩ := h
  exact ⟨b, cap, rfl, hB, by omega, F, h3, fun i hi => h4 i (by omega)⟩
end
theorem rowT_grow {W : World} {base n cap : Nat} {a : Option Addr} {f : Nat → Int} (h : Grow .i64 3 W base a n cap (l16 f)) : n = 16 ∧ ∃ b, a = some ⟨b, 0, none⟩ ∧ base ≤ b ∧ (16 ≤ cap ∧ cap ≤ maxLen) ∧ RowT W b cap (l16 f) := by
  have hl := h.len
  rw [l16_length] at hl
  subst hl
  have hr := h.room
  obtain ⟨b, F, rfl, h1, _, h3, h4, h5⟩ := h.row (by omega)
  exact ⟨rfl, b, rfl, h1, hr, l16_length _, h3, F, h4, h5⟩
/-- Turned back: a number of the sum, times the inverse. -/
def sbF (xs : List Int) (k : Nat) : Int := smF 15 xs k * 241 % 257
theorem sbF_bt (xs : List Int) (k : Nat) : sbF xs k = btF (el xs) k := by
  unfold sbF smF btF
  rw [Int.mul_comm 241]
  exact (cg_mod _).mul (cg.refl 241)
set_option maxHeartbeats 1000000 in
theorem specBackward_any (a : Option Addr) (c : Nat) (xs : List Int) (w : World) (hx : Ints .i64 w w.heap.size a xs) (hl : xs.length ≤ maxLen) :
    Calls Try.prog 20 #[.slice a xs.length c] w (ListPostC (btOr xs) w) := by
  have HV := Lib.hid (fun W (hW : W = w) => l11Valid_any a c w.heap.size xs W (hW ▸ hx) hl)
  cases hok : ptOk xs
  · have HE := Lib.hid (btOr_no hok)
    have HA := Lib.hid (fun o : Obj => (Below.refl w.heap.size w).alloc (Nat.le_refl _) o)
    rw [hok] at HV
    clear hok hx hl
    go_enter Try.func20, Try.ntmps20
    go_wp2_with (go_at_call 33; ((with_reducible refine (HV.out _ rfl).mono ?_); rintro e w' ⟨rfl, rfl⟩))
    go_ret
    rw [HE.out]
    exact listPostC_grow (Grow.lit0 _ _ _ _ (Nat.le_refl _)) (HA.out _)
  · have HE := Lib.hid (show btOr xs = mxL (sbF xs) (smF 15 xs) 16 by rw [btOr_yes hok, mxL_done]; exact l16_congr fun k _ => (sbF_bt xs k).symm)
    have HS := Lib.hid (l11Sum_any a c 15 xs w hx hok 129 rfl)
    have HSt := Lib.hid (mxL_start (sbF xs) (smF 15 xs))
    have HR := Lib.hid (specTransformRoot_any w)
    have HP := Lib.hid (l11Power_is (a := 2) (m := 15) (n := 15) w res_in (by decide) rfl pw15)
    have HP2 := Lib.hid (fun W => l11Power_is (a := 16) (m := 255) (n := 255) W res_in (by decide) rfl pwInv16)
    have HSb := Lib.hid (fun k => show sbF xs k = smF 15 xs k * 241 % 257 from rfl)
    have HSi := Lib.hid (fun k => show 0 ≤ smF 15 xs k ∧ smF 15 xs k < 257 from mod_in _)
    rw [hok] at HV
    clear hok hx hl
    generalize btOr xs = rs at *
    generalize sbF xs = F at *
    generalize smF 15 xs = S at *
    go_enter Try.func20, Try.ntmps20
    go_wp2_with (first | (go_at_call 33; ((with_reducible refine (HV.out _ rfl).mono ?_); rintro e w' ⟨rfl, rfl⟩)) | (go_at_call 12; ((with_reducible refine HR.out.mono ?_); rintro e w' ⟨rfl, rfl⟩)) | (go_at_call 26; ((with_reducible refine HP.out.mono ?_); rintro e w' ⟨rfl, rfl⟩)) | (go_at_call 34; ((with_reducible refine HS.out.mono ?_); rintro e w2 ⟨a2, n2, cap2, rfl, hg2, hb2⟩; obtain ⟨hn2, b2, ha2, hbb2, hcap2, hrow2⟩ := rowT_grow hg2; subst hn2 ha2; have G2 := Lib.hid hrow2; have HC2 := Lib.hid hcap2; have HBB := Lib.hid hbb2; have B2 := Lib.hid hb2; clear hg2 hb2 hbb2 hcap2 hrow2)) | (go_at_call 26; ((with_reducible refine (HP2.out _).mono ?_); rintro e w' ⟨rfl, rfl⟩)))
    rw [HSt.out] at G2
    go_loopw [6] (fun i wr => ∃ k : Nat, k ≤ 16 ∧ i = .int .i64 k ∧ RowT wr b2 cap2 (mxL F S k) ∧ Below w.heap.size w wr) (fun i _ => 16 - (intOf i).toNat)
    case atStart => exact ⟨0, Nat.zero_le _, rfl, G2.out, B2.out⟩
    case round =>
      obtain ⟨k, hk, rfl, hrow, hbel⟩ := hrel
      have H0 := Lib.hid hrow
      have HB := Lib.hid hbel
      clear hrow hbel
      by_cases hlt : k < 16
      · have c0 := H0.out.cell hlt
        have f0 := H0.out.frozen k
        rw [mxL_el _ _ hlt] at c0
        have HS2 := Lib.hid H0.out.step
        have hv := HSb.out k
        have hsi := HSi.out k
        rw [hv] at HS2
        obtain ⟨q, v, hq, r1, r1', r2, hv2, _⟩ := mm_nums hsi (res_in (a := 241))
        rw [← hv2] at HS2
        rw [hq] at r1 r1' r2
        have HB2 := Lib.hid (HB.out.setCell (p := ⟨b2, k, none⟩) HBB.out (.int .i64 v))
        clear hv hsi hq hv2
        generalize S k = A at *
        go_wp2
        go_roundw
        case rel => exact ⟨k + 1, by omega, by go_num, HS2.out, HB2.out⟩
        case measure => simp [intOf]; omega
      · obtain rfl : k = 16 := by omega
        go_wp2
        go_ret
        rw [HE.out]
        exact ⟨_, _, by rw [show (mxL F S 16).length = 16 from l16_length _]; rfl, by rw [show (mxL F S 16).length = 16 from l16_length _]; exact HC2.out, H0.out.own HBB.out, HB.out⟩

/-- A term of the cyclic convolution, and the sum of the first ones. -/
def cyT (xs ys : List Int) (k j : Nat) : Int := el xs j * el ys ((k + 16 - j) % 16)
theorem cyT_done (xs ys : List Int) (k : Nat) : sqS (cyT xs ys k) 16 % 257 = cpF (el xs) (el ys) k := rfl
set_option maxHeartbeats 2000000 in
theorem specCyclic_any (a a' : Option Addr) (c c' : Nat) (xs ys : List Int) (w : World) (hx : Ints .i64 w w.heap.size a xs) (hy : Ints .i64 w w.heap.size a' ys) (hl : xs.length ≤ maxLen) (hl' : ys.length ≤ maxLen) :
    Calls Try.prog 23 #[.slice a xs.length c, .slice a' ys.length c'] w (ListPostC (cpOr xs ys) w) := by
  have HA := Lib.hid (fun o : Obj => (Below.refl w.heap.size w).alloc (Nat.le_refl _) o)
  have HV := Lib.hid (fun o => l11Valid_any a c w.heap.size xs (w.alloc o) (hx.below (HA.out o)) hl)
  have HV' := Lib.hid (fun o => l11Valid_any a' c' w.heap.size ys (w.alloc o) (hy.below (HA.out o)) hl')
  cases hok : ptOk xs
  · have HE := Lib.hid (cpOr_l (ys := ys) hok)
    rw [hok] at HV
    clear hok hx hy hl hl'
    go_enter Try.func23, Try.ntmps23
    go_wp2_with (go_at_call 33; ((with_reducible refine (HV.out _).mono ?_); rintro e w' ⟨rfl, rfl⟩))
    go_ret
    rw [HE.out]
    exact listPostC_grow (Grow.lit0 _ _ _ _ (Nat.le_refl _)) (HA.out _)
  · cases hok' : ptOk ys
    · have HE := Lib.hid (cpOr_r (xs := xs) hok')
      rw [hok] at HV
      rw [hok'] at HV'
      clear hok hok' hx hy hl hl'
      go_enter Try.func23, Try.ntmps23
      go_wp2_with (go_at_call 33; (first | ((with_reducible refine (HV.out _).mono ?_); rintro e w' ⟨rfl, rfl⟩) | ((with_reducible refine (HV'.out _).mono ?_); rintro e w' ⟨rfl, rfl⟩)))
      go_ret
      rw [HE.out]
      exact listPostC_grow (Grow.lit0 _ _ _ _ (Nat.le_refl _)) (HA.out _)
    · have HE := Lib.hid (show cpOr xs ys = prL (cpF (el xs) (el ys)) 16 by rw [cpOr_yes hok hok']; rfl)
      have HX := Lib.hid hx
      have HY := Lib.hid hy
      have HXi := Lib.hid (fun j => ptOk_in hok j)
      have HYi := Lib.hid (fun j => ptOk_in hok' j)
      have HL := Lib.hid (And.intro (ptOk_len hok) (ptOk_len hok'))
      rw [hok] at HV
      rw [hok'] at HV'
      clear hok hok' hx hy hl hl'
      go_enter Try.func23, Try.ntmps23
      go_wp2_with (go_at_call 33; (first | ((with_reducible refine (HV.out _).mono ?_); rintro e w' ⟨rfl, rfl⟩) | ((with_reducible refine (HV'.out _).mono ?_); rintro e w' ⟨rfl, rfl⟩)))
      go_loopw [5, 6] (fun s i wr => ∃ (k : Nat) (v : Option Addr) (cap : Nat), k ≤ 16 ∧ i = .int .i64 k ∧ s = .slice v k cap ∧ Grow .i64 3 wr w.heap.size v k cap (prL (cpF (el xs) (el ys)) k) ∧ Below w.heap.size w wr) (fun _ i _ => 16 - (intOf i).toNat)
      case atStart => exact ⟨0, _, _, Nat.zero_le _, rfl, rfl, Grow.lit0 _ _ _ _ (Nat.le_refl _), HA.out _⟩
      case round =>
        obtain ⟨k, v, cap, hk, rfl, rfl, hgr, hbel⟩ := hrel
        have HG := Lib.hid hgr
        have HB := Lib.hid hbel
        have hsz : w.heap.size ≤ wr.heap.size := hbel.size
        clear hgr hbel
        by_cases hlt : k < 16
        · go_wp2
          rename World => W0
          go_loopw [7, 8] (fun n j wq => ∃ q d : Nat, q ≤ 16 ∧ j = .int .i64 q ∧ n = .int .i64 (sqS (cyT xs ys k) q % 257) ∧ wq = W0.drewN d) (fun _ j _ => 16 - (intOf j).toNat)
          case atStart => exact ⟨0, 0, Nat.zero_le _, rfl, rfl, rfl⟩
          case round =>
            obtain ⟨q, d, hq, rfl, rfl, hwd⟩ := hrel
            have HWd := Lib.hid hwd
            have HBq := Lib.hid (show Below w.heap.size w wr by rw [hwd]; exact below_drewN HB.out d)
            have HGq := Lib.hid (show Grow .i64 3 wr w.heap.size v k cap (prL (cpF (el xs) (el ys)) k) by rw [hwd]; exact HG.out.drewN d)
            clear hwd
            by_cases hlq : q < 16
            · have hlq2 : q < xs.length := by rw [HL.out.1]; exact hlq
              obtain ⟨m, hm⟩ : ∃ m, m = (k + 16 - q) % 16 := ⟨_, rfl⟩
              have hm16 : m < ys.length := by rw [HL.out.2, hm]; exact Nat.mod_lt _ (by decide)
              obtain ⟨b, off, rfl, hb, hc⟩ := (HX.out.below HBq.out).at_ hlq2
              obtain ⟨b', off', rfl, hb', hc'⟩ := (HY.out.below HBq.out).at_ hm16
              have HS := Lib.hid (modS_next (cyT xs ys k) q)
              rw [show cyT xs ys k q = el xs q * el ys m by rw [hm]; rfl] at HS
              have HNi := mod_in (sqS (cyT xs ys k) q)
              have HAi := HXi.out q
              have HPi := HYi.out m
              have t1 : IntKind.i64.wrap ((k : Int) - (q : Int)) = (k : Int) - (q : Int) := wrapT (by omega)
              have t1' : wrap64 ((k : Int) - (q : Int)) = (k : Int) - (q : Int) := wrapT' (by omega)
              have t2 : IntKind.i64.wrap ((k : Int) - (q : Int) + 16) = (k : Int) - (q : Int) + 16 := wrapT (by omega)
              have t2' : wrap64 ((k : Int) - (q : Int) + 16) = (k : Int) - (q : Int) + 16 := wrapT' (by omega)
              have t3 : ((k : Int) - (q : Int) + 16).tmod 16 = (m : Int) := by rw [Int.tmod_eq_emod_of_nonneg (by omega)]; omega
              generalize sqS (cyT xs ys k) q % 257 = N at *
              generalize el xs q = A at *
              generalize el ys m = P at *
              obtain ⟨u, r1, r1', r2, r2', r3, hu⟩ := sum_nums HNi HAi HPi
              rw [← hu] at HS
              have hmi : (m : Int) < (ys.length : Int) := by omega
              clear hu HAi HNi HPi hb hb' hm
              go_wp2
              go_quiet (fail)
              go_wp2
              go_roundw
              case rel => exact ⟨q + 1, _, by omega, by go_num, by rw [HS.out], by rw [HWd.out, World.drewN_drewN]⟩
              case measure => simp [intOf]; omega
            · obtain rfl : q = 16 := by omega
              have HT := Lib.hid (show prL (cpF (el xs) (el ys)) (k + 1) = prL (cpF (el xs) (el ys)) k ++ [sqS (cyT xs ys k) 16 % 257] by rw [prL_snoc, cyT_done])
              generalize sqS (cyT xs ys k) 16 % 257 = N at *
              have hsz2 : w.heap.size ≤ wr.heap.size := HBq.out.size
              go_wp2_with (at_builtin; refine wpList_append1 (.tmp 43) (.tmp 45) w.heap.size v k cap (prL (cpF (el xs) (el ys)) k) ⟨wr.heap.size, 0, none⟩ N rfl rfl rfl rfl (HGq.out.alloc _) (by simp) (by omega) (by simp; omega) ?_; intro a3 cap3 w3 hg3 hb3; have HG3 := Lib.hid hg3; have HB3 := Lib.hid hb3; clear hg3 hb3)
              go_roundw
              case rel => exact ⟨k + 1, a3, cap3, by omega, by go_num, rfl, by rw [HT.out]; exact HG3.out, (HBq.out.alloc hsz2 _).trans HB3.out⟩
              case measure => simp [intOf]; omega
        · obtain rfl : k = 16 := by omega
          go_wp2
          go_ret
          rw [HE.out]
          exact listPostC_grow HG.out HB.out
end Go.Proofs.Ytkigjnjbjbnidaa
