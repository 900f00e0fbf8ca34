/-
  What the models of SpreadBits and AddChips answer, for all arguments. Conditions: lists that can be read, their lengths can be.
-/
import Derived.Test.YtnnknfpkbhcghaaWs5
namespace Go.Proofs.Ytnnknfpkbhcghaa
open Go.RowKit

theorem specBits_is (a : Option Addr) (c B : Nat) (xs : List Int) (b : Bool) (w : World) (hx : Ints .i64 w B a xs) (hl : xs.length ≤ maxLen) (h : bitsOk xs = b) :
    Calls Try.prog 47 #[.slice a xs.length c] w fun e w' => e = .returned (.bool b) ∧ w = w' := by
  subst h; exact specBitsValid_any a c B xs w hx hl
/-- The numbers of one chip. -/
theorem sp_nums {x s : Int} (hx : 0 ≤ x ∧ x ≤ 1) (hs : s = 1 ∨ s = -1) : ∃ f v : Int, f = 2 * x - 1 ∧ v = (2 * x - 1) * s ∧ IntKind.i64.wrap (2 * x) = 2 * x ∧ wrap64 (2 * x) = 2 * x ∧ IntKind.i64.wrap (2 * x - 1) = f ∧ wrap64 (2 * x - 1) = f ∧ IntKind.i64.wrap (f * s) = v ∧ wrap64 (f * s) = v := by
  have hx' : x = 0 ∨ x = 1 := by omega
  refine ⟨_, _, rfl, rfl, wrapW (by omega), wrapW' (by omega), wrapW (by omega), wrapW' (by omega), ?_⟩
  rcases hx' with rfl | rfl <;> rcases hs with rfl | rfl <;> exact ⟨wrapW (by omega), wrapW' (by omega)⟩
theorem newW_lit0 (w : World) : NewW [] w (.returned (.slice (some ⟨w.heap.size, 0, none⟩) 0 0)) (w.alloc (.cells #[] 3)) := ⟨_, _, _, rfl, Grow.lit0 _ _ _ _ (Nat.le_refl _), alloc_belowX _ _⟩
set_option maxHeartbeats 4000000 in
theorem specSpreadBits_new (a : Option Addr) (c : Nat) (xs : List Int) (k : Int) (w : World) (hx : Ints .i64 w w.heap.size a xs) (hl : xs.length ≤ maxLen) :
    Calls Try.prog 21 #[.slice a xs.length c, .int .i64 k] w (NewW (sprOr xs k) w) := by
  have HX := Lib.hid (hx.below (alloc_belowX w (.cells #[] 3)))
  have HV := Lib.hid (fun b h => specBits_is a c w.heap.size xs b _ HX.out hl h)
  have HB0 := Lib.hid (alloc_belowX w (.cells #[] 3))
  clear hx hl
  cases hok : bitsOk xs
  · have H1 := Lib.hid (HV.out false hok)
    have HE := Lib.hid (sprOr_no (bs := xs) (k := k) fun h => by rw [hok] at h; exact absurd h.1 (by decide))
    clear hok HV
    go_enter Try.func21, Try.ntmps21
    go_wp2_with (go_at_call 47; ((with_reducible refine H1.out.mono ?_); rintro e w1 ⟨rfl, rfl⟩))
    go_ret
    rw [HE.out]
    exact newW_lit0 w
  · have H1 := Lib.hid (HV.out true hok)
    clear HV
    by_cases hl : xs.length ≤ 32
    · have hl' : ¬ (32 : Int) < (xs.length : Int) := by omega
      cases hk : kOk k
      · have H2 := Lib.hid (fun W => l1In_k k false W hk)
        have HE := Lib.hid (sprOr_no (bs := xs) fun h => kOk_no hk h.2.2)
        clear hk hl hok
        go_enter Try.func21, Try.ntmps21
        go_wp2_with (first
          | (go_at_call 47; ((with_reducible refine H1.out.mono ?_); rintro e w1 ⟨rfl, rfl⟩))
          | (go_at_call 40; ((with_reducible refine (H2.out _).mono ?_); rintro e w1 ⟨rfl, rfl⟩)))
        go_ret
        rw [HE.out]
        exact newW_lit0 w
      · have H2 := Lib.hid (fun W => l1In_k k true W hk)
        obtain ⟨K, hK, rfl⟩ := kOk_nat hk
        have HE := Lib.hid (sprOr_yes hok hl hK)
        have HL := Lib.hid hl
        have HBi := Lib.hid (bitEl_in hok)
        have HS := Lib.hid (fun (j : Nat) (hj : j < 8) W => l12Sign_is K j W hK hj)
        have HN := Lib.hid (fun m => map_one (spF xs K) m)
        have HF := Lib.hid (fun (i j : Nat) (hj : j < 8) => show spF xs K (8 * i + j) = (2 * el xs i - 1) * sg K j by unfold spF; rw [show (8 * i + j) / 8 = i by omega, show (8 * i + j) % 8 = j by omega])
        have HD := Lib.hid (show spr xs K = (List.range (8 * xs.length)).map (spF xs K) from rfl)
        have HPm := Lib.hid (fun j => sg_pm K j)
        clear hk hl hK hok
        go_enter Try.func21, Try.ntmps21
        go_wp2_with (first
          | (go_at_call 47; ((with_reducible refine H1.out.mono ?_); rintro e w1 ⟨rfl, rfl⟩))
          | (go_at_call 40; ((with_reducible refine (H2.out _).mono ?_); rintro e w1 ⟨rfl, rfl⟩)))
        go_loopw [5, 6] (fun s i wr => ∃ (j n : Nat) (v : Option Addr) (cap : Nat), (j ≤ xs.length ∧ n = 8 * j) ∧ i = .int .i64 j ∧ s = .slice v n cap ∧ Grow .i64 3 wr w.heap.size v n cap ((List.range n).map (spF xs K)) ∧ Below w.heap.size w wr) (fun _ i _ => xs.length - (intOf i).toNat)
        case atStart => exact ⟨0, 0, _, _, ⟨Nat.zero_le _, rfl⟩, rfl, rfl, Grow.lit0 _ _ _ _ (Nat.le_refl _), HB0.out⟩
        case round =>
          obtain ⟨i, n, v, cap, ⟨hi, hn⟩, rfl, rfl, hgr, hbel⟩ := hrel
          have HG := Lib.hid hgr
          have HB := Lib.hid hbel
          have hi32 : i ≤ 32 := Nat.le_trans hi HL.out
          have HNn := Lib.hid hn
          clear hgr hbel hn
          by_cases hlt : i < xs.length
          · go_wp2
            rename World => V0
            go_loopw [5, 7] (fun s q wr => ∃ (j m : Nat) (v : Option Addr) (cap : Nat), (j ≤ 8 ∧ m = 8 * i + j) ∧ q = .int .i64 j ∧ s = .slice v m cap ∧ Grow .i64 3 wr w.heap.size v m cap ((List.range m).map (spF xs K)) ∧ Below w.heap.size w wr) (fun _ q _ => 8 - (intOf q).toNat)
            case atStart => exact ⟨0, n, v, cap, ⟨Nat.zero_le _, HNn.out⟩, rfl, rfl, HG.out, HB.out⟩
            case round =>
              obtain ⟨j, m, v, cap, ⟨hj, hm⟩, rfl, rfl, hgr, hbel⟩ := hrel
              have G1 := Lib.hid hgr
              have B1 := Lib.hid hbel
              have hsz : w.heap.size ≤ wr.heap.size := hbel.size
              have hm9 : m ≤ 1000 := by omega
              have HM := Lib.hid hm
              clear hgr hbel hm
              by_cases hlj : j < 8
              · obtain ⟨b, off, rfl, hb, hc⟩ := ((show Ints .i64 w w.heap.size a xs from fun hne => by obtain ⟨b, o, e, h1, h2⟩ := HX.out hne; exact ⟨b, o, e, h1, fun t ht => by rw [← h2 t ht]; exact (Below.cell HB0.out h1).symm⟩).below B1.out).at_ hlt
                have HSj := Lib.hid (HS.out j hlj)
                have HNj := Lib.hid (show (List.range (m + 1)).map (spF xs K) = (List.range m).map (spF xs K) ++ [(2 * el xs i - 1) * sg K j] by rw [HN.out, HM.out, HF.out i j hlj])
                obtain ⟨f, x, hf, hx, r1, r1', r2, r2', r3, r3'⟩ := sp_nums (HBi.out i) (HPm.out j)
                rw [← hx] at HNj
                generalize el xs i = y at *
                generalize sg K j = s at *
                generalize (List.range m).map (spF xs K) = ys at *
                clear hb hf hx
                go_wp2
                go_region_law (first
                  | (refine step_append1 (.tmp 33) (.tmp 44) w.heap.size v m cap ys ⟨wr.heap.size, 0, none⟩ x rfl rfl rfl rfl (HG1.out.alloc _) (by simp) (by omega) (by simp; omega) ?_; intro a2 cap2 w2 hg2 hb2; have HG2 := Lib.hid hg2; have HB2 := Lib.hid hb2; clear hg2 hb2)
                  | (go_simp; go_at_call 41; refine (HSj.out _).mono ?_; rintro e w' ⟨rfl, rfl⟩; have HG1 : Hid (Grow .i64 3 wr.drew w.heap.size v m cap ys) := G1.out)
                  | fail)
                all_goals
                  go_wp2
                  go_roundw
                  case rel => exact ⟨j + 1, m + 1, a2, cap2, ⟨by omega, by rw [HM.out]; omega⟩, by go_num, rfl, by rw [HNj.out]; exact HG2.out, (B1.out.alloc hsz _).drew.trans HB2.out⟩
                  case measure => simp [intOf]; omega
              · obtain rfl : j = 8 := by omega
                have HM2 := Lib.hid (show m = 8 * (i + 1) by have := HM.out; omega)
                go_wp2
                go_roundw
                case rel => exact ⟨i + 1, m, v, cap, ⟨by omega, HM2.out⟩, by go_num, rfl, G1.out, B1.out⟩
                case measure => simp [intOf]; omega
          · obtain rfl : xs.length = i := by omega
            have HP := Lib.hid (show NewW (sprOr xs (K : Int)) w (.returned (.slice v n cap)) wr from by
              rw [HE.out, HD.out, ← HNn.out]
              exact ⟨_, _, _, rfl, HG.out, HB.out⟩)
            go_wp2
            go_ret
            exact HP.out
    · have HE := Lib.hid (sprOr_no (bs := xs) (k := k) fun h => hl h.2.1)
      have hl' : (32 : Int) < (xs.length : Int) := by omega
      clear hl hok
      go_enter Try.func21, Try.ntmps21
      go_wp2_with (go_at_call 47; ((with_reducible refine H1.out.mono ?_); rintro e w1 ⟨rfl, rfl⟩))
      go_ret
      rw [HE.out]
      exact newW_lit0 w
end Go.Proofs.Ytnnknfpkbhcghaa
