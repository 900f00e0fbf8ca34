/-
  What slices.Repeat leaves of a list of one number, at most ten times. Condition: the number lies in a block.
-/
import Derived.Test.YtnmhiagnmfpipaaMem1
import Derived.Test.YtnmhiagnmfpipaaOne
import Derived.Laws.CopyOwn
import Derived.Deep.RegionLaw
namespace Go.Proofs.Ytnmhiagnmfpipaa
open Go.RowKit

set_option maxRecDepth 10000 in
theorem mul64One (n : Nat) (hn : n ≤ 10) (w : World) : Calls Try.prog 81 #[.int .u64 1, .int .u64 (n : Int)] w fun e w' => e = .returned (.tuple #[.int .u64 0, .int .u64 (n : Int)]) ∧ w = w' := by
  have b1 : bits .and .u64 1 4294967295 = 1 := by kernel_rfl
  have b0 : bits .and .u64 0 4294967295 = 0 := by kernel_rfl
  have b2 : bits .and .u64 2 4294967295 = 2 := by kernel_rfl
  have b3 : bits .and .u64 3 4294967295 = 3 := by kernel_rfl
  have b4 : bits .and .u64 4 4294967295 = 4 := by kernel_rfl
  have b5 : bits .and .u64 5 4294967295 = 5 := by kernel_rfl
  have b6 : bits .and .u64 6 4294967295 = 6 := by kernel_rfl
  have b7 : bits .and .u64 7 4294967295 = 7 := by kernel_rfl
  have b8 : bits .and .u64 8 4294967295 = 8 := by kernel_rfl
  have b9 : bits .and .u64 9 4294967295 = 9 := by kernel_rfl
  have b10 : bits .and .u64 10 4294967295 = 10 := by kernel_rfl
  obtain rfl | rfl | rfl | rfl | rfl | rfl | rfl | rfl | rfl | rfl | rfl : n = 0 ∨ n = 1 ∨ n = 2 ∨ n = 3 ∨ n = 4 ∨ n = 5 ∨ n = 6 ∨ n = 7 ∨ n = 8 ∨ n = 9 ∨ n = 10 := by omega
  all_goals
    go_enter Try.func81, Try.ntmps81
    go_wp2
    go_ret2
    exact ⟨rfl, rfl⟩
set_option maxRecDepth 10000 in
theorem mulOne (n : Nat) (hn : n ≤ 10) (w : World) : Calls Try.prog 74 #[.int .u64 1, .int .u64 (n : Int)] w fun e w' => e = .returned (.tuple #[.int .u64 0, .int .u64 (n : Int)]) ∧ w = w' := by
  have H := Lib.hid (mul64One n hn)
  clear hn
  go_enter Try.func74, Try.ntmps74
  go_wp2_with (go_at_call 81; ((with_reducible refine (H.out _).mono ?_); rintro e w1 ⟨rfl, rfl⟩))
  go_ret2
  exact ⟨rfl, rfl⟩
/-- A row of n numbers of which the first k are set. -/
def rpM (m : Nat) : List Value := List.replicate m (.int .i64 (-1))
def rp (n k : Nat) : List Value := rpM k ++ List.replicate (n - k) (.int .i64 0)
theorem wrapU8 {n : Nat} (hn : n ≤ 10) : IntKind.u64.wrap (n : Int) = (n : Int) := by
  obtain rfl | rfl | rfl | rfl | rfl | rfl | rfl | rfl | rfl | rfl | rfl : n = 0 ∨ n = 1 ∨ n = 2 ∨ n = 3 ∨ n = 4 ∨ n = 5 ∨ n = 6 ∨ n = 7 ∨ n = 8 ∨ n = 9 ∨ n = 10 := by omega
  all_goals kernel_rfl
theorem rp_length {n k : Nat} (h : k ≤ n) : (rp n k).length = n := by simp [rp, rpM]; omega
theorem splice_rp {n k m : Nat} (_h : k + m ≤ n) : splice (rp n k) k (rpM m) = rp n (k + m) := by
  have h1 : (rp n k).take k = rpM k := by unfold rp; rw [List.take_left' (by simp [rpM])]
  have h2 : (rp n k).drop (k + (rpM m).length) = List.replicate (n - (k + m)) (.int .i64 0) := by
    unfold rp
    rw [List.drop_append, List.drop_eq_nil_of_le (by simp [rpM]), List.drop_replicate, List.nil_append]
    congr 1
    simp [rpM]; omega
  unfold splice
  rw [h1, h2, ← List.append_assoc]
  unfold rp rpM
  rw [List.replicate_append_replicate]
theorem rp_at {n k j : Nat} (hj : j < k) : (rp n k)[j]? = some (.int .i64 (-1)) := by
  unfold rp rpM
  rw [List.getElem?_append_left (by simpa using hj)]
  simp [hj]
theorem made_rp (n : Nat) : madeCells #[.int .i64 0] n = (rp n 0).toArray := by
  apply Array.ext
  · rw [size_madeCells]; simp [rp, rpM]
  · intro i h1 h2
    have : i % 1 = 0 := Nat.mod_one i
    simp [madeCells, rp, rpM, this]
theorem rpM_one (m : Nat) : ∀ v ∈ rpM m, v.oneCell' = true := fun v hv => by rw [List.eq_of_mem_replicate hv]; rfl
set_option maxRecDepth 10000 in
theorem infoI1 : (Try.prog.info? 3).map (·.size) = some 1 := by kernel_rfl
theorem srcOne {w : World} {g m : Nat} (h : w.cell? ⟨g, 0, none⟩ = some (.int .i64 (-1))) : ∀ j v, (rpM (min 1 m))[j]? = some v → w.cell? ((⟨g, 0, none⟩ : Addr).add j) = some v := fun j v hv => by
  have hj := (List.getElem?_eq_some_iff.1 hv).1
  simp [rpM] at hj
  obtain rfl : j = 0 := by omega
  have e : v = .int .i64 (-1) := List.eq_of_mem_replicate (List.mem_of_getElem? hv)
  subst e
  exact h
theorem srcRow {w : World} {b n k m : Nat} {t : TypeId} (h : w.heap[b]? = some (.cells (rp n k).toArray t (0, 0))) (hm : m ≤ k) : ∀ j v, (rpM m)[j]? = some v → w.cell? ((⟨b, 0, none⟩ : Addr).add j) = some v := fun j v hv => by
  have hj := (List.getElem?_eq_some_iff.1 hv).1
  simp [rpM] at hj
  have e : v = .int .i64 (-1) := List.eq_of_mem_replicate (List.mem_of_getElem? hv)
  subst e
  have hadd : (⟨b, 0, none⟩ : Addr).add j = ⟨b, j, none⟩ := by unfold Addr.add; split <;> simp_all
  rw [hadd, cell_of_row _ _ _ _ _ _ h]
  simpa using rp_at (n := n) (show j < k by omega)
set_option maxRecDepth 10000 in
theorem rowX_rp {w : World} {b n : Nat} (h : w.heap[b]? = some (.cells (rp n n).toArray 3 (0, 0))) : RowX w b (List.replicate n (-1)) := by
  refine ⟨(rp n n).toArray, h, by simp [rp, rpM], fun i hi => ?_⟩
  rw [List.length_replicate] at hi
  have := rp_at (n := n) hi
  simpa [el, hi] using this
set_option maxRecDepth 10000 in
theorem step_rp {w w0 : World} {ops : Array Oper} {o : Oper} {a : Act} {Q : Exit → Act → World → Prop} {K : Act → World → Prop} {E : Prop} (d s : Operand) (b n k m B : Nat)
    (hgd : o.guard = none) (ho : o.op = .call { callee := .builtin .copy, args := #[d, s], argTypes := #[27, 27] }) (hd : a.eval d = .slice (some ⟨b, k, none⟩) (n - k) (n - k)) (hs : a.eval s = .slice (some ⟨b, 0, none⟩) k n)
    (hh : w.heap[b]? = some (.cells (rp n k).toArray 3 (0, 0))) (hm : m = min k (n - k)) (hk : k ≤ n) (hb : Below B w0 w) (hB : B ≤ b)
    (h : ∀ w', w'.heap[b]? = some (.cells (rp n (k + m)).toArray 3 (0, 0)) → Below B w0 w' → K (a.put o.dst (.int .i64 (m : Int))) w') : if Region.wanted o (yielded ops a.tmps) = true then Oper.wp Try.prog o a w K Q else E := by
  have hl : (rpM m).length = m := by simp [rpM]
  refine step_copy_splice hgd d s 27 27 ho 3 Try.underlying27 infoI1 (some ⟨b, k, none⟩) (some ⟨b, 0, none⟩) (n - k) (n - k) k n hd hs b k (rp n k) 3 hh (rpM m) (by rw [hl]; exact hm) (fun _ => ⟨rfl, ⟨b, 0, none⟩, rfl, srcRow hh (by omega)⟩) (by rw [rp_length hk, hl]; omega) (rpM_one _) B w0 hb hB ?_
  intro w' hg hb'
  have h1 := h w' (by rw [← splice_rp (m := m) (by omega)]; exact hg.out) hb'
  rw [hl]
  exact h1
set_option maxRecDepth 10000 in
set_option maxHeartbeats 4000000 in
theorem repeat_any (g n : Nat) (w : World) (hc : w.cell? ⟨g, 0, none⟩ = some (.int .i64 (-1))) (hg : g < w.heap.size) (hn : n ≤ 10) :
    Calls Try.prog 66 #[.slice (some ⟨g, 0, none⟩) 1 1, .int .i64 (n : Int)] w fun e w' => e = .returned (.slice (some ⟨w.heap.size, 0, none⟩) n n) ∧ RowX w' w.heap.size (List.replicate n (-1)) ∧ Below w.heap.size w w' := by
  have HM := Lib.hid (mulOne n hn)
  have hmk := makeX n (by omega) w
  rw [made_rp] at hmk
  have HB := Lib.hid (alloc_belowX w (.cells (rp n 0).toArray 3))
  have HH := Lib.hid (heap_alloc_last w (.cells (rp n 0).toArray 3))
  have HC := Lib.hid (show (w.alloc (.cells (rp n 0).toArray 3)).cell? ⟨g, 0, none⟩ = some (.int .i64 (-1)) from (HB.out.cell hg).trans hc)
  have hcu : (65 : Nat) = 65 := rfl
  have u1 : IntKind.u64.wrap 1 = 1 := by kernel_rfl
  have u2 : IntKind.u64.wrap (n : Int) = (n : Int) := wrapU8 hn
  have hnn : ¬ (n : Int) < 0 := by omega
  have hbig : ¬ (9223372036854775807 : Int) < (n : Int) := by omega
  have HN8 := Lib.hid hn
  clear hc hg hcu
  go_enter Try.func66, Try.ntmps66
  go_wp2_with (first
    | (go_at_call 74; ((with_reducible refine (HM.out _).mono ?_); rintro e w1 ⟨rfl, rfl⟩))
    | (refine wpList_copy_splice rfl (.tmp 31) (.tmp 32) 27 27 rfl 3 Try.underlying27 infoI1 _ _ n n 1 1 rfl rfl w.heap.size 0 (rp n 0) 3 HH.out (rpM (min 1 n)) (by simp [rpM, Nat.min_def]) (fun h => ⟨rfl, ⟨g, 0, none⟩, rfl, srcOne HC.out⟩) (by rw [rp_length (Nat.zero_le _)]; simp [rpM]; omega) (rpM_one _) w.heap.size w HB.out (Nat.le_refl _) ?_; intro w3 hg3 hb3; have HB3 := Lib.hid hb3; have hg3' := hg3.out; rw [show splice (rp n 0) 0 (rpM (min 1 n)) = rp n (min 1 n) by rw [splice_rp (by omega), Nat.zero_add]] at hg3'; have HG3 := Lib.hid hg3'; clear hg3 hb3 hg3'))
  clear u1 u2 hmk hnn hbig HM HC HH HB
  go_loopw [8] (fun i wr => ∃ k : Nat, k ≤ n ∧ (0 < n → 0 < k) ∧ i = .int .i64 (k : Int) ∧ wr.heap[w.heap.size]? = some (.cells (rp n k).toArray 3 (0, 0)) ∧ Below w.heap.size w wr) (fun i _ => n - (intOf i).toNat)
  case atStart => exact ⟨min 1 n, by omega, by omega, by simp [rpM], HG3.out, HB3.out⟩
  case round =>
    obtain ⟨k, hk, hk0, rfl, hh, hb⟩ := hrel
    have HK := Lib.hid hh
    have HKB := Lib.hid hb
    clear hh hb
    by_cases hlt : k < n
    · obtain ⟨m, hm⟩ : ∃ m, m = min k (n - k) := ⟨_, rfl⟩
      have hm2 : 0 < m ∧ m ≤ k ∧ k + m ≤ n := by omega
      have HM2 := Lib.hid hm2
      have HMM := Lib.hid hm
      have hlt' : (k : Int) < (n : Int) := by omega
      have hle' : (k : Int) ≤ (n : Int) := by omega
      have HHK : Hid (wr.drew.heap[w.heap.size]? = some (.cells (rp n k).toArray 3 (0, 0))) := HK.out
      have HBK : Hid (Below w.heap.size w wr.drew) := below_drewN HKB.out 1
      have R1 := Lib.hid (And.intro (wrapW (n := (k : Int) + (m : Int)) (by omega)) (wrapW' (n := (k : Int) + (m : Int)) (by omega)))
      have hnk : ¬ n = k := by omega
      clear hm hm2
      go_wp2_with fail
      refine wp_region_any (by kernel_rfl) ?_
      change wpAny _ _ _ _ _ _ _ (World.drew _)
      refine wpAny_take (i := 0) (v := ?v1) rfl (by kernel_rfl) (by kernel_rfl) (by kernel_rfl) (fun _ _ _ h => h) (Or.inl ⟨by kernel_rfl, ?h1⟩) ?_
      case h1 => intro w; go_simp; try with_reducible rfl
      go_simp
      refine wpAny_take (i := 1) (v := ?v2) rfl (by kernel_rfl) (by kernel_rfl) (by kernel_rfl) (fun _ _ _ h => h) (Or.inl ⟨by kernel_rfl, ?h2⟩) ?_
      case h2 => intro w; go_simp; try with_reducible rfl
      go_simp
      refine wpAny_take (i := 2) (v := ?v3) rfl (by kernel_rfl) (by kernel_rfl) (by kernel_rfl) (fun _ _ _ h => h) (Or.inl ⟨by kernel_rfl, ?h3⟩) ?_
      case h3 => intro w; go_simp; try with_reducible rfl
      go_simp
      refine wpAny_take (i := 4) (v := ?v4) rfl (by kernel_rfl) (by kernel_rfl) (by kernel_rfl) (fun _ _ _ h => h) (Or.inl ⟨by kernel_rfl, ?h4⟩) ?_
      case h4 => intro w; go_simp; try with_reducible rfl
      go_simp
      refine wpAny_take (i := 5) (v := ?v5) rfl (by kernel_rfl) (by kernel_rfl) (by kernel_rfl) (fun _ _ _ h => h) (Or.inl ⟨by kernel_rfl, ?h5⟩) ?_
      case h5 => intro w; go_simp; try with_reducible rfl
      go_simp
      refine wpAny_take (i := 3) (v := ?v6) rfl (by kernel_rfl) (by kernel_rfl) (by kernel_rfl) (fun _ _ _ h => h) (Or.inl ⟨by kernel_rfl, ?h6⟩) ?_
      case h6 => intro w; go_simp; try with_reducible rfl
      go_simp
      refine wpAny_take (i := 6) (v := ?v7) rfl (by kernel_rfl) (by kernel_rfl) (by kernel_rfl) (fun _ _ _ h => h) (Or.inl ⟨by kernel_rfl, ?h7⟩) ?_
      case h7 => intro w; go_simp; try with_reducible rfl
      go_simp
      refine wpAny_ready (rs := [7]) (by kernel_rfl) (by simp) (AllReady.cons rfl (fun K hK => ?_) AllReady.nil)
      refine step_rp (.tmp 41) (.tmp 44) w.heap.size n k m w.heap.size rfl rfl rfl rfl HHK.out HMM.out hk HBK.out (Nat.le_refl _) ?_
      intro w3 hg3 hb3
      have HB4 := Lib.hid hb3
      have HG4 := Lib.hid hg3
      obtain ⟨r1, r1'⟩ := R1.out
      clear hg3 hb3
      refine hK _ _ ?_
      clear hK K
      go_simp
      refine wpAny_take (i := 8) (v := ?v8) rfl (by kernel_rfl) (by kernel_rfl) (by kernel_rfl) (fun _ _ _ h => h) (Or.inl ⟨by kernel_rfl, ?h8⟩) ?_
      case h8 => intro w; go_simp; try with_reducible rfl
      go_simp
      refine wpAny_take (i := 9) (v := ?v9) rfl (by kernel_rfl) (by kernel_rfl) (by kernel_rfl) (fun _ _ _ h => h) (Or.inl ⟨by kernel_rfl, ?h9⟩) ?_
      case h9 => intro w; go_simp; try with_reducible rfl
      go_simp
      refine wpAny_done (by kernel_rfl) ?_ _
      go_wp2
      clear r1 r1'
      have hm9 := HM2.out
      clear HM2 HMM hlt' hle'
      go_roundw
      case rel => exact ⟨k + m, by omega, by omega, by go_num, HG4.out, HB4.out⟩
      case measure => simp [intOf]; omega
    · obtain rfl : n = k := by omega
      go_wp2
      go_ret
      exact ⟨rfl, rowX_rp HK.out, HKB.out⟩
end Go.Proofs.Ytnmhiagnmfpipaa
