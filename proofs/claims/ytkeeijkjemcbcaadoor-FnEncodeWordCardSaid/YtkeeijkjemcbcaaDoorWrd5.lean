/-
  What the check symbols of eleven symbols are. Conditions: a list that can be read, of eleven elements; the program's tables lie in their variables.
-/
import Derived.Test.YtkeeijkjemcbcaaDoorWrd4
import Derived.Laws.CopyOwn
import Derived.Deep.RegionLaw
namespace Go.Proofs.YtkeeijkjemcbcaaDoor
open Go.RowKit

def V4f (w W : World) (q : Nat → Nat) : Prop := V4 w W (q 0) (q 1) (q 2) (q 3)
theorem V4f.cell {w W : World} {q : Nat → Nat} (h : V4f w W q) {k : Nat} (hk : k < 4) : W.cell? ⟨w.heap.size + 1, k, none⟩ = some (.int .i64 (q k)) := by
  obtain ⟨h0, h1, h2, h3⟩ := V4.cells h
  match k, hk with
  | 0, _ => exact h0
  | 1, _ => exact h1
  | 2, _ => exact h2
  | 3, _ => exact h3
theorem V4f.congr {w W : World} {q r : Nat → Nat} (h : V4f w W q) (he : ∀ i, i < 4 → q i = r i) : V4f w W r := by
  unfold V4f at h ⊢
  rw [← he 0 (by omega), ← he 1 (by omega), ← he 2 (by omega), ← he 3 (by omega)]
  exact h
theorem V4f.set {w W : World} {q : Nat → Nat} (h : V4f w W q) {k : Nat} (hk : k < 4) (v : Nat) : V4f w (W.setCell ⟨w.heap.size + 1, k, none⟩ (.int .i64 v)) (fun i => if i = k then v else q i) := by
  match k, hk with
  | 0, _ => exact V4.set h rfl
  | 1, _ => exact V4.set h rfl
  | 2, _ => exact V4.set h rfl
  | 3, _ => exact V4.set h rfl
theorem V4f.drewN {w W : World} {q : Nat → Nat} (h : V4f w W q) (n : Nat) : V4f w (W.drewN n) q := V4.drewN h n
/-- The remainder moved up by one; the same, with the multiple of the generator added in the first k places. -/
def up6 (d : Nat → Nat) (n : Nat) : Nat → Nat := fun j => if j < 3 then rem6 d n (j + 1) else 0
def mid6 (d : Nat → Nat) (n F k : Nat) : Nat → Nat := fun j => if j < k then up6 d n j ^^^ fmul F (gen6 j) else up6 d n j
theorem mid6_step (d : Nat → Nat) (n F k : Nat) : (fun i => if i = k then mid6 d n F k k ^^^ fmul F (gen6 k) else mid6 d n F k i) = mid6 d n F (k + 1) := funext fun i => by
  unfold mid6
  by_cases h : i = k
  · subst h; rw [if_pos rfl, if_neg (by omega), if_pos (by omega)]
  · rw [if_neg h]
    by_cases h1 : i < k
    · rw [if_pos h1, if_pos (by omega)]
    · rw [if_neg h1, if_neg (by omega)]
theorem mid6_end (d : Nat → Nat) (n : Nat) {i : Nat} (hi : i < 4) : mid6 d n (d n ^^^ rem6 d n 0) 4 i = rem6 d (n + 1) i := by
  unfold mid6 up6; rw [if_pos hi, rem6]
theorem mid6_lt {d : Nat → Nat} {n F : Nat} (hd : Lt16 d) (hF : F < 16) (k i : Nat) : mid6 d n F k i < 16 := by
  have hu : up6 d n i < 16 := by
    unfold up6; split
    · exact rem6_lt hd n _
    · omega
  unfold mid6; split
  · exact xor_lt hu (fmul_lt hF (gen6_lt i))
  · exact hu
/-- What the copy within the array leaves. -/
theorem V4f.copied {w W W' : World} {q : Nat → Nat} (h : V4f w W q) (hg : W'.heap[w.heap.size + 1]? = some (.cells (splice [.int .i64 (q 0), .int .i64 (q 1), .int .i64 (q 2), .int .i64 (q 3)] 0 [.int .i64 (q 1), .int .i64 (q 2), .int .i64 (q 3)]).toArray 42 (0, 0)))
    (hb : Below (w.heap.size + 1) W W') : V4f w W' (fun j => if j < 3 then q (j + 1) else q 3) := by
  refine ⟨(hb.block _ (by show w.heap.size < w.heap.size + 1; omega)).trans h.1, hg, h.2.2.trans (hb.mono (by omega))⟩

theorem info1 : (Tryd.prog.info? 3).map (·.size) = some 1 := by kernel_rfl
theorem V4f.src {w W : World} {q : Nat → Nat} (h : V4f w W q) : ∀ (j : Nat) (v : Value), [Value.int .i64 (q 1), .int .i64 (q 2), .int .i64 (q 3)][j]? = some v → W.cell? ((⟨w.heap.size + 1, 1, none⟩ : Addr).add j) = some v := fun j v hj => by
  have hadd : (⟨w.heap.size + 1, 1, none⟩ : Addr).add j = ⟨w.heap.size + 1, 1 + j, none⟩ := by unfold Addr.add; split <;> simp_all
  rw [hadd]
  match j, hj with
  | 0, hj => cases hj; exact h.cell (k := 1) (by omega)
  | 1, hj => cases hj; exact h.cell (k := 2) (by omega)
  | 2, hj => cases hj; exact h.cell (k := 3) (by omega)
theorem three_one (a b c : Nat) : ∀ v ∈ [Value.int .i64 a, .int .i64 b, .int .i64 c], v.oneCell' = true := fun v hv => by
  simp only [List.mem_cons, List.not_mem_nil, or_false] at hv
  rcases hv with rfl | rfl | rfl <;> rfl
theorem V4f.upped {w W : World} {d : Nat → Nat} {n : Nat} (h : V4f w W (fun i => if i = 3 then 0 else if i < 3 then rem6 d n (i + 1) else rem6 d n 3)) : V4f w W (up6 d n) := h.congr (four rfl rfl rfl rfl)
theorem gen6_el {i : Nat} (h : i < 4) : el genL i = (gen6 i : Int) := by
  have : ∀ i, i < 4 → el genL i = (gen6 i : Int) := by decide +kernel
  exact this i h
theorem gen6_at {i : Nat} (h : i < 4) : (#[Value.int .i64 13, .int .i64 12, .int .i64 8, .int .i64 7] : Array Value)[i]? = some (.int .i64 (gen6 i)) := by
  match i, h with
  | 0, _ | 1, _ | 2, _ | 3, _ => rfl
theorem symbol_at {xs : List Int} {k : Nat} (h : xs.all elOk = true) (hk : k < xs.length) : el xs k = (co xs k : Int) ∧ co xs k < 16 := co_el h hk
set_option maxHeartbeats 1000000 in
theorem checkSymbols_any (a : Option Addr) (c : Nat) (xs : List Int) (w : World) (hx : Ints .i64 w w.heap.size a xs) (hk : wok 11 xs = true) (hT : Tabs2 w) (hZ : GenTab w) :
    Calls Tryd.prog 35 #[.slice a xs.length c] w fun e w' => e = .returned (arr4 (rem6 (co xs) 11 0) (rem6 (co xs) 11 1) (rem6 (co xs) 11 2) (rem6 (co xs) 11 3)) ∧ Below w.heap.size w w' := by
  obtain ⟨hlen, hall⟩ := wok_parts hk
  have hd := wok_lt hk
  have HX := Lib.hid hx
  have HT := Lib.hid hT
  have HZ := Lib.hid hZ
  have HA := Lib.hid hall
  have HD := Lib.hid hd
  have HL := Lib.hid hlen
  have V0 := Lib.hid (V4.new w)
  have hl20 : xs.length ≤ 20 := by omega
  clear hx hT hZ hk hlen hall hd
  unfold arr4
  obtain ⟨s0, h0⟩ : ∃ r, r = rem6 (co xs) 11 0 := ⟨_, rfl⟩
  obtain ⟨s1, h1⟩ : ∃ r, r = rem6 (co xs) 11 1 := ⟨_, rfl⟩
  obtain ⟨s2, h2⟩ : ∃ r, r = rem6 (co xs) 11 2 := ⟨_, rfl⟩
  obtain ⟨s3, h3⟩ : ∃ r, r = rem6 (co xs) 11 3 := ⟨_, rfl⟩
  rw [← h0, ← h1, ← h2, ← h3]
  have H0 := Lib.hid h0
  have H1 := Lib.hid h1
  have H2 := Lib.hid h2
  have H3 := Lib.hid h3
  clear h0 h1 h2 h3
  go_enter Tryd.func35, Tryd.ntmps35
  go_wp2
  go_loopw [11] (fun i wr => ∃ k : Nat, k ≤ xs.length ∧ i = .int .i64 k ∧ V4f w wr (rem6 (co xs) k)) (fun i _ => xs.length - (intOf i).toNat)
  case atStart => exact ⟨0, Nat.zero_le _, rfl, V0.out⟩
  case round =>
    obtain ⟨n, hn, rfl, hv⟩ := hrel
    have HV := Lib.hid hv
    clear V0
    by_cases hlt : n < xs.length
    · obtain ⟨b, off, rfl, hb, hc⟩ := (HX.out.below hv.2.2).at_ hlt
      obtain ⟨he, hd16⟩ := co_el HA.out hlt
      rw [he] at hc
      have hr0 := hv.cell (k := 0) (by omega)
      have hr16 := rem6_lt HD.out n 0
      obtain ⟨F, hF⟩ : ∃ F, F = co xs n ^^^ rem6 (co xs) n 0 := ⟨_, rfl⟩
      have hF16 : F < 16 := by rw [hF]; exact xor_lt hd16 hr16
      have hx1 : bits .xor .i64 (co xs n : Int) (rem6 (co xs) n 0 : Int) = (F : Int) := by rw [hF]; exact xor_word _ _ (by omega) (by omega)
      have HF := Lib.hid hF
      clear hF hv he
      generalize hdn : co xs n = D at *
      generalize hq : rem6 (co xs) n = q at *
      have HDN := Lib.hid hdn
      have HQN := Lib.hid hq
      clear hdn hq
      go_wp2
      have HG : Hid (wr.drew.heap[w.heap.size + 1]? = some (.cells [Value.int .i64 (q 0), .int .i64 (q 1), .int .i64 (q 2), .int .i64 (q 3)].toArray 42 (0, 0))) := HV.out.2.1
      have HS : Hid (∀ (j : Nat) (v : Value), [Value.int .i64 (q 1), .int .i64 (q 2), .int .i64 (q 3)][j]? = some v → wr.drew.cell? ((⟨w.heap.size + 1, 1, none⟩ : Addr).add j) = some v) := V4f.src (HV.out.drewN 1)
      have HO := Lib.hid (three_one (q 1) (q 2) (q 3))
      go_region_law (refine step_copy_splice rfl (.tmp 19) (.tmp 20) 23 23 rfl 3 Tryd.underlying23 info1 _ _ 4 4 3 3 rfl rfl (w.heap.size + 1) 0 _ 42 HG.out _ rfl (fun _ => ⟨rfl, _, rfl, HS.out⟩) (by simp) HO.out (w.heap.size + 1) wr.drew (Below.refl _ _) (Nat.le_refl _) ?_; intro w6 hg6 hb6; have HV6 := Lib.hid (V4f.copied (W := wr.drew) (HV.out.drewN 1) hg6.out hb6); clear hg6 hb6)
      have HV7 := Lib.hid (HV6.out.set (k := 3) (by omega) 0)
      have c3 := HV6.out.cell (k := 3) (by omega)
      have f3 := V4.frozen HV6.out 3
      have z0 : (w6.setCell ⟨w.heap.size + 1, 3, none⟩ (.int .i64 0)).cell? ⟨0, 0, none⟩ = some (.int .i64 13) := (HZ.out.next HV7.out.2.2).2 0 (by omega)
      have z1 : (w6.setCell ⟨w.heap.size + 1, 3, none⟩ (.int .i64 0)).cell? ⟨0, 1, none⟩ = some (.int .i64 12) := (HZ.out.next HV7.out.2.2).2 1 (by omega)
      have z2 : (w6.setCell ⟨w.heap.size + 1, 3, none⟩ (.int .i64 0)).cell? ⟨0, 2, none⟩ = some (.int .i64 8) := (HZ.out.next HV7.out.2.2).2 2 (by omega)
      have z3 : (w6.setCell ⟨w.heap.size + 1, 3, none⟩ (.int .i64 0)).cell? ⟨0, 3, none⟩ = some (.int .i64 7) := (HZ.out.next HV7.out.2.2).2 3 (by omega)
      clear HG HS HO HV6 HV hr0 hc hx1
      go_wp2
      have HV8 : Hid (V4f w (w6.setCell ⟨w.heap.size + 1, 3, none⟩ (.int .i64 0)) (up6 (co xs) n)) := V4f.upped (by rw [HQN.out]; exact HV7.out)
      clear c3 f3 z0 z1 z2 z3 HV7
      generalize w6.setCell ⟨w.heap.size + 1, 3, none⟩ (.int .i64 0) = W7 at *
      go_loopw [24] (fun i wr2 => ∃ k : Nat, k ≤ 4 ∧ i = .int .i64 k ∧ V4f w wr2 (mid6 (co xs) n F k)) (fun i _ => 4 - (intOf i).toNat)
      case atStart => exact ⟨0, Nat.zero_le _, rfl, HV8.out⟩
      case round =>
        obtain ⟨k, hk4, rfl, hv⟩ := hrel
        by_cases hlt4 : k < 4
        · have hg16 := gen6_lt k
          have hi : ∀ W, (Instr.index 42 (.agg #[.int .i64 13, .int .i64 12, .int .i64 8, .int .i64 7]) (.int .i64 (k : Int))).run Tryd.prog W = .ok (.int .i64 (gen6 k)) W := fun W => index4 _ k _ W hlt4 (gen6_at hlt4)
          have hm16 := mid6_lt HD.out hF16 k k (n := n)
          have ck := hv.cell hlt4
          have fk := V4.frozen hv k
          have HM := Lib.hid (mid6_step (co xs) n F k)
          have HV := Lib.hid hv
          have hp16 := fmul_lt hF16 hg16
          have HP := Lib.hid (fieldProduct_any F (gen6 k) wr.drew ((HT.out.next hv.2.2).drewN 1) hF16 hg16)
          generalize gen6 k = G at *
          generalize fmul F G = P at *
          generalize hmk : mid6 (co xs) n F k k = M at *
          obtain ⟨x, hx⟩ : ∃ x, x = M ^^^ P := ⟨_, rfl⟩
          have hx2 : bits .xor .i64 (M : Int) (P : Int) = (x : Int) := by rw [hx]; exact xor_word _ _ (by omega) (by omega)
          rw [← hx] at HM
          clear hv hmk hx
          go_wp2
          clear hi
          go_region_law (first | (go_simp; go_at_call 53; refine HP.out.mono ?_; rintro e w' ⟨rfl, m, rfl⟩))
          all_goals
            go_wp2
            go_roundw
            case rel => exact ⟨k + 1, by omega, by go_num, by rw [← HM.out]; exact V4f.set (HV.out.drewN _) hlt4 x⟩
            case measure => simp [intOf]; omega
        · obtain rfl : k = 4 := by omega
          have HV9 : Hid (V4f w wr (rem6 (co xs) (n + 1))) := hv.congr fun i hi => by rw [HF.out, ← HDN.out, ← HQN.out]; exact mid6_end _ _ hi
          clear hv
          go_wp2
          go_roundw
          case rel => exact ⟨n + 1, by omega, by go_num, HV9.out⟩
          case measure => simp [intOf]; omega
    · obtain rfl : xs.length = n := by omega
      have HV' : Hid (V4 w wr s0 s1 s2 s3) := by
        have h := HV.out
        unfold V4f at h
        rw [HL.out] at h
        rw [H0.out, H1.out, H2.out, H3.out]
        exact h
      clear HV
      go_wp2_with (first | (refine load4 (.tmp 3) (w.heap.size + 1) (row4 s0 s1 s2 s3) HV'.out.2.1 rfl rfl rfl rfl ?_) | (refine store4 (.tmp 2) (.tmp 38) w.heap.size (row4 s0 s1 s2 s3) (row4 0 0 0 0) HV'.out.1 rfl rfl (row4_one _ _ _ _) rfl rfl rfl rfl ?_))
      refine bodyPost_ret (results_cell_row (P := Tryd.prog) rfl _ _ w.heap.size 42 (row4 s0 s1 s2 s3) (0, 0) _ rfl (setRow_heap _ _ _ _ _ _ HV'.out.1) Tryd.underlying42 rfl info4) rfl ?_
      exact ⟨rfl, below_setRow HV'.out.2.2 (Nat.le_refl _) _⟩
end Go.Proofs.YtkeeijkjemcbcaaDoor
