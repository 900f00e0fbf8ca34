/-
  What CorrelateAt, FindPattern and their models answer, for all arguments. Condition: the lists can be read; the models: the lengths can be.
-/
import Derived.Test.YtdnnpnaaohfgaaaSeq2
namespace Go.Proofs.Ytdnnpnaaohfgaaa
open Go.RowKit

def cS (xs ps : List Int) (q : Nat) : Int := crS xs ps q ps.length
/-- The numbers of one product of a correlation. -/
theorem cr_nums {xs ps : List Int} (hx : seqOk xs = true) (hp : seqOk ps = true) (q : Nat) {k : Nat} (hk : k < ps.length) : ∃ p s u v z : Int, p = el ps k ∧ s = el xs (q + k) ∧ u = p * s ∧ z = crS xs ps q k ∧ v = z + u ∧ v = crS xs ps q (k + 1) ∧ u = s * p ∧
    (-1000000000000 ≤ u ∧ u ≤ 1000000000000) ∧ (-1000000000000 ≤ v ∧ v ≤ 1000000000000) := by
  have h1 := prod_in (seqOk_in hp k) (seqOk_in hx (q + k))
  have hl := seqOk_len hp
  have h2 := crS_in hx hp q (k + 1) (by omega)
  have e : crS xs ps q (k + 1) = crS xs ps q k + el ps k * el xs (q + k) := by rw [Int.mul_comm]; rfl
  exact ⟨_, _, _, _, _, rfl, rfl, rfl, rfl, rfl, e.symm, Int.mul_comm _ _, by omega, by omega⟩
set_option maxHeartbeats 1000000 in
theorem correlation_any (a a' : Option Addr) (c c' B : Nat) (xs ps : List Int) (q : Nat) (w : World) (hx : Ints .i64 w B a xs) (hy : Ints .i64 w B a' ps) (hxo : seqOk xs = true) (hpo : seqOk ps = true) (hq : q + ps.length ≤ xs.length) :
    Calls Try.prog 42 #[.slice a xs.length c, .slice a' ps.length c', .int .i64 (q : Int)] w fun e w' => e = .returned (.int .i64 (cS xs ps q)) ∧ w = w' := by
  have HX := Lib.hid hx
  have HY := Lib.hid hy
  have HOX := Lib.hid hxo
  have HOP := Lib.hid hpo
  have hlx := seqOk_len hxo
  have hlp := seqOk_len hpo
  have HQ := Lib.hid hq
  have hq64 : q ≤ 64 := by omega
  have HL := Lib.hid (And.intro hlx hlp)
  clear hx hy hxo hpo hq hlx hlp
  go_enter Try.func42, Try.ntmps42
  go_wp2
  go_loop [7, 12] (fun s i => ∃ k : Nat, k ≤ ps.length ∧ i = .int .i64 k ∧ s = .int .i64 (crS xs ps q k)) (fun _ i => ps.length - (intOf i).toNat)
  case atStart => exact ⟨0, Nat.zero_le _, rfl, rfl⟩
  case round =>
    obtain ⟨k, hk, rfl, rfl⟩ := hrel
    have hk64 : k ≤ 64 := Nat.le_trans hk HL.out.2
    by_cases hlt : k < ps.length
    · have hqk : q + k < xs.length := by have := HQ.out; omega
      obtain ⟨b, off, rfl, hb, hc⟩ := HY.out.at_ hlt
      obtain ⟨b', off', rfl, hb', hc'⟩ := HX.out.at_ hqk
      obtain ⟨p, s, u, v, z, hp, hs, hu, hz, hv, hv2, hu2, ku, kv⟩ := cr_nums HOX.out HOP.out q hlt
      rw [← hp] at hc
      rw [← hs] at hc'
      rw [← hz]
      have HV := Lib.hid hv2
      obtain ⟨g, hg⟩ : ∃ g, g = q + k := ⟨_, rfl⟩
      rw [← hg] at hc' hqk
      have r1 : IntKind.i64.wrap (p * s) = u := by rw [← hu]; exact wrapS ku
      have r1' : wrap64 (p * s) = u := by rw [← hu]; exact wrapS' ku
      have r2 : IntKind.i64.wrap (z + u) = v := by rw [← hv]; exact wrapS kv
      have r2' : wrap64 (z + u) = v := by rw [← hv]; exact wrapS' kv
      have r3 : IntKind.i64.wrap ((q : Int) + (k : Int)) = (g : Int) := by rw [wrapS (by omega)]; omega
      have r3' : wrap64 ((q : Int) + (k : Int)) = (g : Int) := by rw [wrapS' (by omega)]; omega
      clear hb hb' hp hs hu hu2 hz hv hv2 ku kv hg
      go_wp2
      go_round
      case rel => exact ⟨k + 1, by omega, by go_num, by first | rw [← HV.out] | rw [← HV.out, r2'] | (rw [← HV.out, r1', r2'])⟩
      case measure => simp [intOf]; omega
    · obtain rfl : ps.length = k := by omega
      go_wp2
      go_ret
      exact ⟨rfl, rfl⟩
set_option maxHeartbeats 1000000 in
theorem correlateAt_any (a a' : Option Addr) (c c' : Nat) (xs ps : List Int) (q : Int) (w : World) (hx : Ints .i64 w w.heap.size a xs) (hy : Ints .i64 w w.heap.size a' ps) :
    Calls Try.prog 21 #[.slice a xs.length c, .slice a' ps.length c', .int .i64 q] w fun e w' => e = .returned (.int .i64 (crOr xs ps q)) ∧ ∃ n, w' = w.drewN n := by
  have HV := Lib.hid (fun b h => seqValid_is a c w.heap.size xs w b hx h)
  have HW := Lib.hid (fun b h => seqValid_is a' c' w.heap.size ps w b hy h)
  cases h1 : seqOk xs
  · have H1 := Lib.hid (HV.out false h1)
    have HE := Lib.hid (crOr_no (xs := xs) (ps := ps) (q := q) (by simp [h1]))
    clear hx hy HV HW h1
    go_enter Try.func21, Try.ntmps21
    go_wp2_with (go_at_call 37; ((with_reducible refine H1.out.mono ?_); rintro e w' ⟨rfl, rfl⟩))
    go_ret
    exact ⟨ret_int HE.out.symm, 0, rfl⟩
  · have H1 := Lib.hid (HV.out true h1)
    cases h2 : seqOk ps
    · have H2 := Lib.hid (HW.out false h2)
      have HE := Lib.hid (crOr_no (xs := xs) (ps := ps) (q := q) (by simp [h2]))
      clear hx hy HV HW h1 h2
      go_enter Try.func21, Try.ntmps21
      go_wp2_with (first | (go_at_call 37; ((with_reducible refine H1.out.mono ?_); rintro e w' ⟨rfl, rfl⟩)) | (go_at_call 37; ((with_reducible refine H2.out.mono ?_); rintro e w' ⟨rfl, rfl⟩)))
      go_ret
      exact ⟨ret_int HE.out.symm, 0, rfl⟩
    · have H2 := Lib.hid (HW.out true h2)
      have hlx := seqOk_len h1
      have hlp := seqOk_len h2
      by_cases hq : 0 ≤ q ∧ q ≤ (xs.length : Int) - ps.length
      · obtain ⟨Q, rfl⟩ := Int.eq_ofNat_of_zero_le hq.1
        have hle : Q + ps.length ≤ xs.length := by omega
        have HC := Lib.hid (correlation_any a a' c c' w.heap.size xs ps Q w hx hy h1 h2 hle)
        have HE := Lib.hid (crOr_yes h1 h2 hle)
        have z1 : decide ((Q : Int) < 0) = false := by simp
        have r1 : IntKind.i64.wrap ((xs.length : Int) - (ps.length : Int)) = (xs.length : Int) - (ps.length : Int) := wrapS (by omega)
        have r1' : wrap64 ((xs.length : Int) - (ps.length : Int)) = (xs.length : Int) - (ps.length : Int) := wrapS' (by omega)
        have z2 : decide ((xs.length : Int) - (ps.length : Int) < (Q : Int)) = false := by simp; omega
        clear hx hy HV HW h1 h2 hq hle hlx hlp
        go_enter Try.func21, Try.ntmps21
        go_wp2_with (first | (go_at_call 37; ((with_reducible refine H1.out.mono ?_); rintro e w' ⟨rfl, rfl⟩)) | (go_at_call 37; ((with_reducible refine H2.out.mono ?_); rintro e w' ⟨rfl, rfl⟩)) | (go_at_call 42; refine HC.out.mono ?_; rintro e w' ⟨rfl, rfl⟩))
        go_ret
        exact ⟨ret_int HE.out.symm, 0, rfl⟩
      · have HE := Lib.hid (crOr_no (xs := xs) (ps := ps) (q := q) (fun h => hq ⟨h.2.2.1, h.2.2.2⟩))
        by_cases hq0 : q < 0
        · clear hx hy HV HW h1 h2 hq
          go_enter Try.func21, Try.ntmps21
          go_wp2_with (first | (go_at_call 37; ((with_reducible refine H1.out.mono ?_); rintro e w' ⟨rfl, rfl⟩)) | (go_at_call 37; ((with_reducible refine H2.out.mono ?_); rintro e w' ⟨rfl, rfl⟩)))
          go_ret
          exact ⟨ret_int HE.out.symm, 0, rfl⟩
        · have r1 : IntKind.i64.wrap ((xs.length : Int) - (ps.length : Int)) = (xs.length : Int) - (ps.length : Int) := wrapS (by omega)
          have r1' : wrap64 ((xs.length : Int) - (ps.length : Int)) = (xs.length : Int) - (ps.length : Int) := wrapS' (by omega)
          have z1 : decide (q < 0) = false := by simp; omega
          have z2 : decide ((xs.length : Int) - (ps.length : Int) < q) = true := by simp; omega
          clear hx hy HV HW h1 h2 hq hq0 hlx hlp
          go_enter Try.func21, Try.ntmps21
          go_wp2_with (first | (go_at_call 37; ((with_reducible refine H1.out.mono ?_); rintro e w' ⟨rfl, rfl⟩)) | (go_at_call 37; ((with_reducible refine H2.out.mono ?_); rintro e w' ⟨rfl, rfl⟩)))
          go_ret
          exact ⟨ret_int HE.out.symm, 0, rfl⟩
set_option maxHeartbeats 1000000 in
theorem bestPlace_any (a a' : Option Addr) (c c' B : Nat) (xs ps : List Int) (w : World) (hx : Ints .i64 w B a xs) (hy : Ints .i64 w B a' ps) (hxo : seqOk xs = true) (hpo : seqOk ps = true) (hp0 : 0 < ps.length) :
    Calls Try.prog 43 #[.slice a xs.length c, .slice a' ps.length c'] w fun e w' => e = .returned (.int .i64 (fpOr xs ps)) ∧ w = w' := by
  have hlx := seqOk_len hxo
  have hlp := seqOk_len hpo
  have r1 : IntKind.i64.wrap ((xs.length : Int) - (ps.length : Int)) = (xs.length : Int) - (ps.length : Int) := wrapS (by omega)
  have r1' : wrap64 ((xs.length : Int) - (ps.length : Int)) = (xs.length : Int) - (ps.length : Int) := wrapS' (by omega)
  by_cases hle : ps.length ≤ xs.length
  · obtain ⟨D, hD⟩ : ∃ D, D = xs.length - ps.length := ⟨_, rfl⟩
    have HE := Lib.hid (show fpOr xs ps = (fpN (cS xs ps) D : Nat) by rw [fpOr_yes hxo hpo hp0 hle, hD]; rfl)
    have HC := Lib.hid (fun (k : Nat) (hk : k ≤ D) => correlation_any a a' c c' B xs ps k w hx hy hxo hpo (by omega))
    have r2 : IntKind.i64.wrap ((xs.length : Int) - (ps.length : Int) + 1) = ((D + 1 : Nat) : Int) := by rw [wrapS (by omega)]; omega
    have r2' : wrap64 ((xs.length : Int) - (ps.length : Int) + 1) = ((D + 1 : Nat) : Int) := by rw [wrapS' (by omega)]; omega
    have hD64 : D ≤ 64 := by omega
    clear hx hy hxo hpo hp0 hlx hlp hle hD
    go_enter Try.func43, Try.ntmps43
    go_wp2
    try rw [r2']
    clear r1 r1' r2 r2'
    go_loop [5, 6, 15] (fun s t i => ∃ k : Nat, k ≤ D + 1 ∧ i = .int .i64 k ∧ ((k = 0 ∧ s = .int .i64 (-1) ∧ t = .int .i64 0) ∨ ∃ m g : Nat, k = m + 1 ∧ g = fpN (cS xs ps) m ∧ s = .int .i64 (g : Int) ∧ t = .int .i64 (cS xs ps g))) (fun _ _ i => D + 1 - (intOf i).toNat)
    case atStart => exact ⟨0, Nat.zero_le _, rfl, .inl ⟨rfl, rfl, rfl⟩⟩
    case round =>
      obtain ⟨k, hk, rfl, hst⟩ := hrel
      by_cases hlt : k < D + 1
      · have HCk := Lib.hid (HC.out k (by omega))
        have hlt' : (k : Int) < ((D + 1 : Nat) : Int) := by omega
        rcases hst with ⟨rfl, rfl, rfl⟩ | ⟨m, g, rfl, hg, rfl, rfl⟩
        · go_wp2_with (go_at_call 42; refine HCk.out.mono ?_; rintro e w' ⟨rfl, rfl⟩)
          go_round
          case rel => exact ⟨1, by omega, by go_num, .inr ⟨0, 0, rfl, rfl, rfl, rfl⟩⟩
          case measure => simp [intOf]
        · have hf := fpN_le (cS xs ps) m
          obtain ⟨x, hx⟩ : ∃ x, x = cS xs ps g := ⟨_, rfl⟩
          obtain ⟨y, hy⟩ : ∃ y, y = cS xs ps (m + 1) := ⟨_, rfl⟩
          have z1 : decide ((g : Int) < 0) = false := by simp
          rw [← hy] at HCk
          rw [← hx]
          by_cases hxy : x < y
          · have HN : Hid (m + 1 = fpN (cS xs ps) (m + 1)) := by show m + 1 = fpN (cS xs ps) (m + 1); rw [fpN, ← hg, if_pos (by rw [← hx, ← hy]; exact hxy)]
            have HY := Lib.hid hy
            clear hg hf hx hy
            go_wp2_with (go_at_call 42; refine HCk.out.mono ?_; rintro e w' ⟨rfl, rfl⟩)
            go_round
            case rel => exact ⟨m + 1 + 1, by omega, by go_num, .inr ⟨m + 1, m + 1, rfl, HN.out, rfl, by rw [HY.out]⟩⟩
            case measure => simp [intOf]; omega
          · have HN : Hid (g = fpN (cS xs ps) (m + 1)) := by show g = fpN (cS xs ps) (m + 1); rw [fpN, ← hg, if_neg (by rw [← hx, ← hy]; exact hxy)]
            have HY := Lib.hid hx
            clear hg hf hx hy
            go_wp2_with (go_at_call 42; refine HCk.out.mono ?_; rintro e w' ⟨rfl, rfl⟩)
            go_round
            case rel => exact ⟨m + 1 + 1, by omega, by go_num, .inr ⟨m + 1, g, rfl, HN.out, rfl, by rw [HY.out]⟩⟩
            case measure => simp [intOf]; omega
      · obtain rfl : k = D + 1 := by omega
        rcases hst with ⟨h, _, _⟩ | ⟨m, g, hm, hg, rfl, rfl⟩
        · exact absurd h (by omega)
        · obtain rfl : D = m := by omega
          have HR := Lib.hid (show (g : Int) = fpOr xs ps by rw [HE.out, hg])
          clear hg hm
          go_wp2
          go_ret
          exact ⟨ret_int HR.out, rfl⟩
  · have HE := Lib.hid (fpOr_no (xs := xs) (ps := ps) (fun h => hle h.2.2.2))
    obtain ⟨D, hD⟩ : ∃ D : Int, D = (xs.length : Int) - (ps.length : Int) + 1 := ⟨_, rfl⟩
    have hD0 : D ≤ 0 := by omega
    have r2 : IntKind.i64.wrap ((xs.length : Int) - (ps.length : Int) + 1) = D := by rw [wrapS (by omega), hD]
    have r2' : wrap64 ((xs.length : Int) - (ps.length : Int) + 1) = D := by rw [wrapS' (by omega), hD]
    clear hx hy hxo hpo hp0 hlx hlp hle hD
    go_enter Try.func43, Try.ntmps43
    go_wp2
    try rw [r2']
    clear r1 r1' r2 r2'
    go_loop [5, 15] (fun s i => i = .int .i64 0 ∧ s = .int .i64 (-1)) (fun _ _ => 0)
    case atStart => exact ⟨rfl, rfl⟩
    case round =>
      obtain ⟨rfl, rfl⟩ := hrel
      go_wp2
      go_ret
      exact ⟨ret_int HE.out.symm, rfl⟩
set_option maxHeartbeats 1000000 in
theorem findPattern_any (a a' : Option Addr) (c c' : Nat) (xs ps : List Int) (w : World) (hx : Ints .i64 w w.heap.size a xs) (hy : Ints .i64 w w.heap.size a' ps) :
    Calls Try.prog 24 #[.slice a xs.length c, .slice a' ps.length c'] w fun e w' => e = .returned (.int .i64 (fpOr xs ps)) ∧ ∃ n, w' = w.drewN n := by
  have HV := Lib.hid (fun b h => seqValid_is a c w.heap.size xs w b hx h)
  have HW := Lib.hid (fun b h => seqValid_is a' c' w.heap.size ps w b hy h)
  cases h1 : seqOk xs
  · have H1 := Lib.hid (HV.out false h1)
    have HE := Lib.hid (fpOr_no (xs := xs) (ps := ps) (by simp [h1]))
    clear hx hy HV HW h1
    go_enter Try.func24, Try.ntmps24
    go_wp2_with (go_at_call 37; ((with_reducible refine H1.out.mono ?_); rintro e w' ⟨rfl, rfl⟩))
    go_ret
    exact ⟨ret_int HE.out.symm, 0, rfl⟩
  · have H1 := Lib.hid (HV.out true h1)
    cases h2 : seqOk ps
    · have H2 := Lib.hid (HW.out false h2)
      have HE := Lib.hid (fpOr_no (xs := xs) (ps := ps) (by simp [h2]))
      clear hx hy HV HW h1 h2
      go_enter Try.func24, Try.ntmps24
      go_wp2_with (first | (go_at_call 37; ((with_reducible refine H1.out.mono ?_); rintro e w' ⟨rfl, rfl⟩)) | (go_at_call 37; ((with_reducible refine H2.out.mono ?_); rintro e w' ⟨rfl, rfl⟩)))
      go_ret
      exact ⟨ret_int HE.out.symm, 0, rfl⟩
    · have H2 := Lib.hid (HW.out true h2)
      by_cases h3 : 0 < ps.length
      · have HC := Lib.hid (bestPlace_any a a' c c' w.heap.size xs ps w hx hy h1 h2 h3)
        have z3 : ((ps.length : Int) == 0) = false := by rw [beq_eq_false_iff_ne]; omega
        clear hx hy HV HW h1 h2 h3
        generalize fpOr xs ps = F at *
        go_enter Try.func24, Try.ntmps24
        go_wp2_with (first | (go_at_call 37; ((with_reducible refine H1.out.mono ?_); rintro e w' ⟨rfl, rfl⟩)) | (go_at_call 37; ((with_reducible refine H2.out.mono ?_); rintro e w' ⟨rfl, rfl⟩)) | (go_at_call 43; refine HC.out.mono ?_; rintro e w' ⟨rfl, rfl⟩))
        go_ret
        exact ⟨rfl, 0, rfl⟩
      · have HE := Lib.hid (fpOr_no (xs := xs) (ps := ps) (by omega))
        have z3 : ((ps.length : Int) == 0) = true := by rw [beq_iff_eq]; omega
        clear hx hy HV HW h1 h2 h3
        go_enter Try.func24, Try.ntmps24
        go_wp2_with (first | (go_at_call 37; ((with_reducible refine H1.out.mono ?_); rintro e w' ⟨rfl, rfl⟩)) | (go_at_call 37; ((with_reducible refine H2.out.mono ?_); rintro e w' ⟨rfl, rfl⟩)))
        go_ret
        exact ⟨ret_int HE.out.symm, 0, rfl⟩
set_option maxHeartbeats 1000000 in
theorem specCorrelateAt_any (a a' : Option Addr) (c c' : Nat) (xs ps : List Int) (q : Int) (w : World) (hx : Ints .i64 w w.heap.size a xs) (hy : Ints .i64 w w.heap.size a' ps) (hlx0 : xs.length ≤ maxLen) (hly0 : ps.length ≤ maxLen) :
    Calls Try.prog 22 #[.slice a xs.length c, .slice a' ps.length c', .int .i64 q] w fun e w' => e = .returned (.int .i64 (crOr xs ps q)) ∧ ∃ n, w' = w.drewN n := by
  have HV := Lib.hid (fun b h => specSeqValid_is a c w.heap.size xs w b hx hlx0 h)
  have HW := Lib.hid (fun b h => specSeqValid_is a' c' w.heap.size ps w b hy hly0 h)
  have HX := Lib.hid hx
  have HY := Lib.hid hy
  clear hx hy hlx0 hly0
  cases h1 : seqOk xs
  · have H1 := Lib.hid (HV.out false h1)
    have HE := Lib.hid (crOr_no (xs := xs) (ps := ps) (q := q) (by simp [h1]))
    clear HV HW h1
    go_enter Try.func22, Try.ntmps22
    go_wp2_with (go_at_call 14; ((with_reducible refine H1.out.mono ?_); rintro e w' ⟨rfl, rfl⟩))
    go_ret
    exact ⟨ret_int HE.out.symm, 0, rfl⟩
  · have H1 := Lib.hid (HV.out true h1)
    cases h2 : seqOk ps
    · have H2 := Lib.hid (HW.out false h2)
      have HE := Lib.hid (crOr_no (xs := xs) (ps := ps) (q := q) (by simp [h2]))
      clear HV HW h1 h2
      go_enter Try.func22, Try.ntmps22
      go_wp2_with (first | (go_at_call 14; ((with_reducible refine H1.out.mono ?_); rintro e w' ⟨rfl, rfl⟩)) | (go_at_call 14; ((with_reducible refine H2.out.mono ?_); rintro e w' ⟨rfl, rfl⟩)))
      go_ret
      exact ⟨ret_int HE.out.symm, 0, rfl⟩
    · have H2 := Lib.hid (HW.out true h2)
      have HOX := Lib.hid h1
      have HOP := Lib.hid h2
      have hlx := seqOk_len h1
      have hlp := seqOk_len h2
      have r1 : IntKind.i64.wrap ((xs.length : Int) - (ps.length : Int)) = (xs.length : Int) - (ps.length : Int) := wrapS (by omega)
      have r1' : wrap64 ((xs.length : Int) - (ps.length : Int)) = (xs.length : Int) - (ps.length : Int) := wrapS' (by omega)
      have HI := l1In_any q 0 ((xs.length : Int) - (ps.length : Int)) w
      by_cases hq : 0 ≤ q ∧ q ≤ (xs.length : Int) - ps.length
      · rw [show (decide ((0 : Int) ≤ q) && decide (q ≤ (xs.length : Int) - (ps.length : Int))) = true by simp [hq.1, hq.2]] at HI
        have HI2 := Lib.hid HI
        obtain ⟨Q, rfl⟩ := Int.eq_ofNat_of_zero_le hq.1
        have hle : Q + ps.length ≤ xs.length := by omega
        have HE := Lib.hid (crOr_yes h1 h2 hle)
        have HQ := Lib.hid hle
        have hq64 : Q ≤ 64 := by omega
        have HL := Lib.hid (And.intro hlx hlp)
        clear HV HW h1 h2 hq hle HI hlx hlp
        go_enter Try.func22, Try.ntmps22
        go_wp2_with (first | (go_at_call 14; ((with_reducible refine H1.out.mono ?_); rintro e w' ⟨rfl, rfl⟩)) | (go_at_call 14; ((with_reducible refine H2.out.mono ?_); rintro e w' ⟨rfl, rfl⟩)) | (go_at_call 38; refine HI2.out.mono ?_; rintro e w' ⟨rfl, rfl⟩))
        clear H1 H2 HI2 r1 r1'
        go_loopw [7, 8] (fun s i wr => ∃ k n : Nat, k ≤ ps.length ∧ i = .int .i64 k ∧ s = .int .i64 (crS xs ps Q k) ∧ wr = w.drewN n) (fun _ i _ => ps.length - (intOf i).toNat)
        case atStart => exact ⟨0, 0, Nat.zero_le _, rfl, rfl, rfl⟩
        case round =>
          obtain ⟨k, n, hk, rfl, rfl, rfl⟩ := hrel
          have hk64 : k ≤ 64 := Nat.le_trans hk HL.out.2
          by_cases hlt : k < ps.length
          · have hqk : Q + k < xs.length := by have := HQ.out; omega
            obtain ⟨b, off, rfl, hb, hc⟩ := HY.out.at_ hlt
            obtain ⟨b', off', rfl, hb', hc'⟩ := HX.out.at_ hqk
            obtain ⟨p, s, u, v, z, hp, hs, hu, hz, hv, hv2, hu2, ku, kv⟩ := cr_nums HOX.out HOP.out Q hlt
            rw [← hp] at hc
            rw [← hs] at hc'
            rw [← hz]
            have HV := Lib.hid hv2
            obtain ⟨g, hg⟩ : ∃ g, g = Q + k := ⟨_, rfl⟩
            rw [← hg] at hc' hqk
            have r1 : IntKind.i64.wrap (s * p) = u := by rw [← hu2]; exact wrapS ku
            have r1' : wrap64 (s * p) = u := by rw [← hu2]; exact wrapS' ku
            have r2 : IntKind.i64.wrap (z + u) = v := by rw [← hv]; exact wrapS kv
            have r2' : wrap64 (z + u) = v := by rw [← hv]; exact wrapS' kv
            have r3 : IntKind.i64.wrap ((Q : Int) + (k : Int)) = (g : Int) := by rw [wrapS (by omega)]; omega
            have r3' : wrap64 ((Q : Int) + (k : Int)) = (g : Int) := by rw [wrapS' (by omega)]; omega
            clear hb hb' hp hs hu hu2 hz hv hv2 ku kv hg
            go_wp2
            go_quiet (fail)
            go_wp2
            go_roundw
            case rel => exact ⟨k + 1, _, by omega, by go_num, by rw [← HV.out], rfl⟩
            case measure => simp [intOf]; omega
          · obtain rfl : ps.length = k := by omega
            go_wp2
            go_ret
            exact ⟨ret_int HE.out.symm, n, rfl⟩
      · rw [show (decide ((0 : Int) ≤ q) && decide (q ≤ (xs.length : Int) - (ps.length : Int))) = false by
          rw [Bool.and_eq_false_iff, decide_eq_false_iff_not, decide_eq_false_iff_not]; omega] at HI
        have HI2 := Lib.hid HI
        have HE := Lib.hid (crOr_no (xs := xs) (ps := ps) (q := q) (fun h => hq ⟨h.2.2.1, h.2.2.2⟩))
        clear HV HW h1 h2 hq HI hlx hlp
        go_enter Try.func22, Try.ntmps22
        go_wp2_with (first | (go_at_call 14; ((with_reducible refine H1.out.mono ?_); rintro e w' ⟨rfl, rfl⟩)) | (go_at_call 14; ((with_reducible refine H2.out.mono ?_); rintro e w' ⟨rfl, rfl⟩)) | (go_at_call 38; refine HI2.out.mono ?_; rintro e w' ⟨rfl, rfl⟩))
        go_ret
        exact ⟨ret_int HE.out.symm, 0, rfl⟩
theorem specCorr_at {a a' : Option Addr} {c c' : Nat} {xs ps : List Int} {k : Nat} {w : World} (hx : Ints .i64 w w.heap.size a xs) (hy : Ints .i64 w w.heap.size a' ps) (hxo : seqOk xs = true) (hpo : seqOk ps = true) (hk : k + ps.length ≤ xs.length) :
    Calls Try.prog 22 #[.slice a xs.length c, .slice a' ps.length c', .int .i64 (k : Int)] w fun e w' => e = .returned (.int .i64 (cS xs ps k)) ∧ ∃ n, w' = w.drewN n := by
  have h := specCorrelateAt_any a a' c c' xs ps (k : Int) w hx hy (by have := seqOk_len hxo; unfold maxLen; omega) (by have := seqOk_len hpo; unfold maxLen; omega)
  rw [crOr_yes hxo hpo hk] at h
  exact h
set_option maxHeartbeats 1000000 in
theorem specFindPattern_any (a a' : Option Addr) (c c' : Nat) (xs ps : List Int) (w : World) (hx : Ints .i64 w w.heap.size a xs) (hy : Ints .i64 w w.heap.size a' ps) (hlx0 : xs.length ≤ maxLen) (hly0 : ps.length ≤ maxLen) :
    Calls Try.prog 25 #[.slice a xs.length c, .slice a' ps.length c'] w fun e w' => e = .returned (.int .i64 (fpOr xs ps)) ∧ ∃ n, w' = w.drewN n := by
  have HV := Lib.hid (fun b h => specSeqValid_is a c w.heap.size xs w b hx hlx0 h)
  have HW := Lib.hid (fun b h => specSeqValid_is a' c' w.heap.size ps w b hy hly0 h)
  have HX := Lib.hid hx
  have HY := Lib.hid hy
  clear hx hy hlx0 hly0
  cases h1 : seqOk xs
  · have H1 := Lib.hid (HV.out false h1)
    have HE := Lib.hid (fpOr_no (xs := xs) (ps := ps) (by simp [h1]))
    clear HV HW h1
    go_enter Try.func25, Try.ntmps25
    go_wp2_with (go_at_call 14; ((with_reducible refine H1.out.mono ?_); rintro e w' ⟨rfl, rfl⟩))
    go_ret
    exact ⟨ret_int HE.out.symm, 0, rfl⟩
  · have H1 := Lib.hid (HV.out true h1)
    cases h2 : seqOk ps
    · have H2 := Lib.hid (HW.out false h2)
      have HE := Lib.hid (fpOr_no (xs := xs) (ps := ps) (by simp [h2]))
      clear HV HW h1 h2
      go_enter Try.func25, Try.ntmps25
      go_wp2_with (first | (go_at_call 14; ((with_reducible refine H1.out.mono ?_); rintro e w' ⟨rfl, rfl⟩)) | (go_at_call 14; ((with_reducible refine H2.out.mono ?_); rintro e w' ⟨rfl, rfl⟩)))
      go_ret
      exact ⟨ret_int HE.out.symm, 0, rfl⟩
    · have H2 := Lib.hid (HW.out true h2)
      have hlx := seqOk_len h1
      have hlp := seqOk_len h2
      have HL := Lib.hid (And.intro hlx hlp)
      by_cases h3 : 0 < ps.length
      · have z3 : ((ps.length : Int) == 0) = false := by rw [beq_eq_false_iff_ne]; omega
        have HC := Lib.hid (fun (k n : Nat) (hk : k + ps.length ≤ xs.length) => specCorr_at (c := c) (c' := c') (w := w.drewN n) (HX.out.drewN n) (HY.out.drewN n) h1 h2 hk)
        have HF := Lib.hid (fun (hle : ps.length ≤ xs.length) => fpOr_yes h1 h2 h3 hle)
        have HF' := Lib.hid (fun (hle : ¬ ps.length ≤ xs.length) => fpOr_no (xs := xs) (ps := ps) (fun h => hle h.2.2.2))
        clear HV HW h1 h2 hlx hlp
        go_enter Try.func25, Try.ntmps25
        go_wp2_with (first | (go_at_call 14; ((with_reducible refine H1.out.mono ?_); rintro e w' ⟨rfl, rfl⟩)) | (go_at_call 14; ((with_reducible refine H2.out.mono ?_); rintro e w' ⟨rfl, rfl⟩)))
        clear H1 H2 z3
        go_loopw [5, 6] (fun s i wr => ∃ k n : Nat, (k = 0 ∨ k + ps.length ≤ xs.length + 1) ∧ i = .int .i64 k ∧ wr = w.drewN n ∧ ((k = 0 ∧ s = .int .i64 (-1)) ∨ ∃ m g : Nat, k = m + 1 ∧ g = fpN (cS xs ps) m ∧ s = .int .i64 (g : Int))) (fun _ i _ => xs.length + 1 - (intOf i).toNat)
        case atStart => exact ⟨0, 0, .inl rfl, rfl, rfl, .inl ⟨rfl, rfl⟩⟩
        case round =>
          obtain ⟨k, n, hk, rfl, rfl, hst⟩ := hrel
          have hl1 : xs.length ≤ 64 := HL.out.1
          have hl2 : ps.length ≤ 64 := HL.out.2
          have hk66 : k ≤ 66 := by omega
          have r1 : IntKind.i64.wrap ((k : Int) + (ps.length : Int)) = (k : Int) + (ps.length : Int) := wrapS (by omega)
          have r1' : wrap64 ((k : Int) + (ps.length : Int)) = (k : Int) + (ps.length : Int) := wrapS' (by omega)
          by_cases hlt : k + ps.length ≤ xs.length
          · have hlt' : (k : Int) + (ps.length : Int) ≤ (xs.length : Int) := by omega
            rcases hst with ⟨rfl, rfl⟩ | ⟨m, g, hkm, hg, rfl⟩
            · go_wp2
              go_roundw
              case rel => exact ⟨1, n, .inr (by omega), by go_num, rfl, .inr ⟨0, 0, rfl, rfl, by rfl⟩⟩
              case measure => simp [intOf]
            · have hf := fpN_le (cS xs ps) m
              have HCk := Lib.hid (HC.out k n hlt)
              have HCg := Lib.hid (fun n' => HC.out g n' (by omega))
              have HK := Lib.hid hkm
              obtain ⟨x, hx⟩ : ∃ x, x = cS xs ps g := ⟨_, rfl⟩
              obtain ⟨y, hy⟩ : ∃ y, y = cS xs ps k := ⟨_, rfl⟩
              have z1 : decide ((g : Int) < 0) = false := by simp
              rw [← hy] at HCk
              rw [← hx] at HCg
              by_cases hxy : x < y
              · have HN : Hid (m + 1 = fpN (cS xs ps) (m + 1)) := by show m + 1 = fpN (cS xs ps) (m + 1); rw [fpN, ← hg, if_pos (by rw [← hkm, ← hx, ← hy]; exact hxy)]
                clear hg hf hx hy hkm
                go_wp2_with (first
                  | (go_at_call 22; (with_reducible refine HCk.out.mono ?_); rintro e w' ⟨rfl, n2, rfl⟩)
                  | (go_at_call 22; (with_reducible refine (HCg.out _).mono ?_); rintro e w' ⟨rfl, n3, rfl⟩))
                go_roundw
                case rel => exact ⟨k + 1, _, .inr (by omega), by go_num, rfl, .inr ⟨m + 1, m + 1, by rw [HK.out], HN.out, by rw [HK.out]⟩⟩
                case measure => simp [intOf]; omega
              · have HN : Hid (g = fpN (cS xs ps) (m + 1)) := by show g = fpN (cS xs ps) (m + 1); rw [fpN, ← hg, if_neg (by rw [← hkm, ← hx, ← hy]; exact hxy)]
                clear hg hf hx hy hkm
                go_wp2_with (first
                  | (go_at_call 22; (with_reducible refine HCk.out.mono ?_); rintro e w' ⟨rfl, n2, rfl⟩)
                  | (go_at_call 22; (with_reducible refine (HCg.out _).mono ?_); rintro e w' ⟨rfl, n3, rfl⟩))
                go_roundw
                case rel => exact ⟨k + 1, _, .inr (by omega), by go_num, rfl, .inr ⟨m + 1, g, by rw [HK.out], HN.out, rfl⟩⟩
                case measure => simp [intOf]; omega
          · have hlt' : ¬ (k : Int) + (ps.length : Int) ≤ (xs.length : Int) := by omega
            rcases hst with ⟨rfl, rfl⟩ | ⟨m, g, hkm, hg, rfl⟩
            · have HE := Lib.hid (HF'.out (by omega))
              go_wp2
              go_ret
              exact ⟨ret_int HE.out.symm, n, rfl⟩
            · have hle : ps.length ≤ xs.length := by omega
              have HE := Lib.hid (show (g : Int) = fpOr xs ps by rw [HF.out hle, show xs.length - ps.length = m by omega, hg]; rfl)
              clear hg hle hkm
              go_wp2
              go_ret
              exact ⟨ret_int HE.out, n, rfl⟩
      · have HE := Lib.hid (fpOr_no (xs := xs) (ps := ps) (by omega))
        have z3 : ((ps.length : Int) == 0) = true := by rw [beq_iff_eq]; omega
        clear HV HW h1 h2 h3
        go_enter Try.func25, Try.ntmps25
        go_wp2_with (first | (go_at_call 14; ((with_reducible refine H1.out.mono ?_); rintro e w' ⟨rfl, rfl⟩)) | (go_at_call 14; ((with_reducible refine H2.out.mono ?_); rintro e w' ⟨rfl, rfl⟩)))
        go_ret
        exact ⟨ret_int HE.out.symm, 0, rfl⟩
end Go.Proofs.Ytdnnpnaaohfgaaa
