/-
  The library's heap over the queue: which methods its calls come to; what up, down, Push and Pop leave. Conditions: the queue lies there and is a heap, with room.
-/
import Derived.Test.YtenihedpbklmlaaAccHp
namespace Go.Proofs.Ytenihedpbklmlaa
open Go.RowKit
theorem nilchk (xt : TypeId) (s1 s2 : String) (a : Addr) (w : World) : (Builtin.ssaWrapNilChk_ #[xt] xt #[.pointer (some a), strVal s1, strVal s2]).run Try.prog w = .ok (.pointer (some a)) w := rfl
set_option maxRecDepth 10000 in
theorem recvVal (a : Addr) (nm : String) (w : World) : (receiverAt 58 (.val (.pointer (some a))) false (some nm)).run Try.prog w = (loadVar 52 a).run Try.prog w := by
  unfold receiverAt
  rw [Sem.run_bind, run_underlying Try.underlying58]
  show ((do let ptr ← Builtin.ssaWrapNilChk_ #[58] 58 #[.pointer (some a), strVal "", strVal nm]; loadVar 52 (← asAddr ptr) : Sem Value)).run Try.prog w = _
  rw [Sem.run_bind, nilchk]
  rfl
set_option maxRecDepth 10000 in
theorem mVal (name : String) (f : FuncId) (a : Addr) (w : World) (hm : (Try.prog.info? 58).map (fun i => (i.methods.find? (·.name == name)).map fun m => (m.path.toList, m.func)) = some (some ([], some (f, false)))) :
    (method 227 58 (.pointer (some a)) name).run Try.prog w = ((loadVar 52 a).run Try.prog w).andThen fun u w' => .ok (f, u) w' := by
  cases hi : Try.prog.info? 58 with
  | none => simp [hi] at hm
  | some i =>
    rw [hi] at hm
    simp only [Option.map_some, Option.some.injEq] at hm
    obtain ⟨m, hf, h2⟩ := Option.map_eq_some_iff.1 hm
    simp only [Prod.mk.injEq] at h2
    obtain ⟨h3, h4⟩ := h2
    have h5 : m.path.isEmpty = true := by simpa using h3
    have ht : (typeInfo 58).run Try.prog w = .ok i w := by simp [typeInfo, hi]
    show (method (226 + 1) 58 (.pointer (some a)) name).run Try.prog w = _
    rw [method, Sem.run_bind, ht]
    simp only [Result.andThen_ok, hf, h3, h4, h5, follow, Sem.run_bind, Sem.run_pure, if_true, recvVal]
set_option maxRecDepth 10000 in
theorem loadQ (v : Nat) (x : Value) (w : World) (h : w.cell? ⟨v, 0, none⟩ = some x) : (loadVar 52 ⟨v, 0, none⟩).run Try.prog w = .ok x w := by
  simp [loadVar, isAgg, run_underlying Try.underlying52, h]
section
variable {w : World} {v b cap : Nat} {L : List Wt}
set_option maxRecDepth 10000 in
theorem mLess (h : QV w v b cap L) : (method 227 58 (.pointer (some ⟨v, 0, none⟩)) "Less").run Try.prog w = .ok (88, .slice (some ⟨b, 0, none⟩) L.length cap) w := by
  rw [mVal "Less" 88 _ w (by kernel_rfl), loadQ v _ w h.cell]; rfl
set_option maxRecDepth 10000 in
theorem mSwap (h : QV w v b cap L) : (method 227 58 (.pointer (some ⟨v, 0, none⟩)) "Swap").run Try.prog w = .ok (89, .slice (some ⟨b, 0, none⟩) L.length cap) w := by
  rw [mVal "Swap" 89 _ w (by kernel_rfl), loadQ v _ w h.cell]; rfl
set_option maxRecDepth 10000 in
theorem mLen (h : QV w v b cap L) : (method 227 58 (.pointer (some ⟨v, 0, none⟩)) "Len").run Try.prog w = .ok (87, .slice (some ⟨b, 0, none⟩) L.length cap) w := by
  rw [mVal "Len" 87 _ w (by kernel_rfl), loadQ v _ w h.cell]; rfl
end
set_option maxRecDepth 10000 in
theorem mPush (v : Nat) (w : World) : (method 227 58 (.pointer (some ⟨v, 0, none⟩)) "Push").run Try.prog w = .ok (91, .pointer (some ⟨v, 0, none⟩)) w := by kernel_rfl
set_option maxRecDepth 10000 in
theorem mPop (v : Nat) (w : World) : (method 227 58 (.pointer (some ⟨v, 0, none⟩)) "Pop").run Try.prog w = .ok (90, .pointer (some ⟨v, 0, none⟩)) w := by kernel_rfl
/-- What up leaves: the same senders, a heap. -/
def UpPost (W : World) (v b cap : Nat) (L : List Wt) (e : Ending) (w' : World) : Prop :=
  e = .returned (.tuple #[]) ∧ ∃ M, QV w' v b cap M ∧ Hp M M.length ∧ M.Perm L ∧ KeptOut b (v + 1) W w'
theorem QV.len {W : World} {v b cap : Nat} {L : List Wt} (h : QV W v b cap L) : L.length ≤ 8 := Nat.le_trans h.2.2.2.1 h.2.1
set_option maxRecDepth 10000 in
/-- The queue after an exchange, as Swap leaves it. -/
theorem swap_is (W : World) (v b cap : Nat) (L : List Wt) (i j : Nat) (h : QV W v b cap L) (hi : i < L.length) (hj : j < L.length) :
    Calls Try.prog 89 #[.slice (some ⟨b, 0, none⟩) L.length cap, .int .i64 (i : Int), .int .i64 (j : Int)] W (QPost W v b cap (swp L i j) (.tuple #[])) :=
  (qSwap_any W b cap L i j h.2.2.2 hi hj).mono fun _ _ ⟨h1, n, h2⟩ => by
    subst h2
    exact ⟨h1, (h.swap hi hj).drewN n, (((KeptOut.refl b (v + 1) W).toPut4 (Nat.le_refl _) (by have := h.lt; omega) _ _).toPut4 (Nat.le_refl _) (by have := h.lt; omega) _ _).toDrew n⟩
set_option maxRecDepth 10000 in
theorem less_is (W : World) (v b cap : Nat) (L : List Wt) (i j : Nat) (h : QV W v b cap L) (hi : i < L.length) (hj : j < L.length) (r : Bool) (hr : decide (sl L i < sl L j) = r) :
    Calls Try.prog 88 #[.slice (some ⟨b, 0, none⟩) L.length cap, .int .i64 (i : Int), .int .i64 (j : Int)] W (QPost W v b cap L (.bool r)) :=
  (qLess_any W b cap L i j r h.2.2.2 hi hj hr).mono fun _ _ ⟨h1, n, h2⟩ => by
    subst h2
    exact ⟨h1, h.drewN n, (KeptOut.refl b (v + 1) W).toDrew n⟩
set_option maxRecDepth 10000 in
set_option maxHeartbeats 4000000 in
theorem up_any (W : World) (v b cap : Nat) (L : List Wt) (h : QV W v b cap L) (j : Nat) (hj : j < L.length) (hu : HpUp L j) :
    Calls Try.prog 57 #[.iface 58 (.pointer (some ⟨v, 0, none⟩)), .int .i64 (j : Int)] W (UpPost W v b cap L) := by
  have HQ0 := Lib.hid h
  have HU0 := Lib.hid hu
  have hL8 := h.len
  clear h hu
  go_enter Try.func57, Try.ntmps57
  go_wp2
  go_loopw [1] (fun i wr => ∃ (k : Nat) (M : List Wt), k < L.length ∧ M.length = L.length ∧ i = .int .i64 (k : Int) ∧ QV wr v b cap M ∧ HpUp M k ∧ M.Perm L ∧ KeptOut b (v + 1) W wr) (fun i _ => (intOf i).toNat)
  case atStart => exact ⟨j, L, hj, rfl, rfl, HQ0.out, HU0.out, List.Perm.refl _, KeptOut.refl _ _ _⟩
  case round =>
    obtain ⟨k, M, hk, hML, rfl, hq, hu, hp, hkp⟩ := hrel
    have HQ := Lib.hid hq
    have HU := Lib.hid hu
    have HP := Lib.hid hp
    have HK := Lib.hid hkp
    have hM8 : M.length ≤ 8 := hq.len
    have hkM : k < M.length := by omega
    have HML := Lib.hid hML
    have r1 := wrapW (n := (k : Int) - 1) (by omega)
    have r1' := wrapW' (n := (k : Int) - 1) (by omega)
    clear hq hu hp hkp HQ0 HU0 hML hk hL8 hj
    by_cases hk0 : k = 0
    · subst hk0
      have HE := Lib.hid (hpUp_end HU.out (.inl rfl))
      go_wp2
      go_end0
      exact ⟨rfl, M, HQ.out, HE.out, HP.out, HK.out⟩
    · obtain ⟨p, hp⟩ : ∃ p, p = (k - 1) / 2 := ⟨_, rfl⟩
      have hpk : p < k := by omega
      have ht : ((k : Int) - 1).tdiv 2 = (p : Int) := by rw [Int.tdiv_eq_ediv_of_nonneg (by omega)]; omega
      have r2 := wrapW (n := (p : Int)) (by omega)
      have r2' := wrapW' (n := (p : Int)) (by omega)
      have hne : ¬ (p : Int) = (k : Int) := by omega
      have hneb : ((p : Int) == (k : Int)) = false := by simp; omega
      have hm1 := mLess HQ.out
      by_cases hlt : sl M k < sl M p
      · have HL := Lib.hid (less_is wr v b cap M k p HQ.out (by omega) (by omega) true (decide_eq_true hlt))
        have HS := Lib.hid (hpUp_step HU.out (by omega) (by omega) (by rw [← hp]; exact hlt))
        rw [← hp] at HS
        have HW := Lib.hid (fun W h => swap_is W v b cap M p k h (by omega) (by omega))
        have HE := Lib.hid (show (swp M p k).length = L.length by rw [swp_length]; exact HML.out)
        have HF := Lib.hid ((swp_perm (L := M) (i := p) (j := k) (by omega) (by omega)).trans HP.out)
        have HPK := Lib.hid hpk
        have HKM := Lib.hid hkM
        clear hlt hp hpk hkM hk0
        go_wp2_with (first
          | (go_at_call 88; ((with_reducible refine HL.out.mono ?_); rintro e w1 ⟨rfl, q1, k1⟩; have Q1 := Lib.hid q1; have K1 := Lib.hid (HK.out.andThen k1); have hm2 := mSwap q1; clear q1 k1))
          | (go_at_call 89; ((with_reducible refine (HW.out _ Q1.out).mono ?_); rintro e w2 ⟨rfl, q2, k2⟩; have Q2 := Lib.hid q2; have K2 := Lib.hid (K1.out.andThen k2); clear q2 k2)))
        go_roundw
        case rel =>
          have h1 := HPK.out
          have h2 := HKM.out
          have h3 := HML.out
          exact ⟨p, _, by omega, HE.out, rfl, Q2.out, HS.out, HF.out, K2.out⟩
        case measure => have h1 := HPK.out; simp [intOf]; omega
      · have HL := Lib.hid (less_is wr v b cap M k p HQ.out (by omega) (by omega) false (decide_eq_false hlt))
        have HE := Lib.hid (hpUp_end HU.out (.inr (by rw [← hp]; omega)))
        clear hlt hp hpk hkM hk0
        go_wp2_with (go_at_call 88; ((with_reducible refine HL.out.mono ?_); rintro e w1 ⟨rfl, q1, k1⟩; have Q1 := Lib.hid q1; have K1 := Lib.hid (HK.out.andThen k1); clear q1 k1))
        go_end0
        exact ⟨rfl, M, Q1.out, HE.out, HP.out, K1.out⟩
/-- What down leaves: the same senders, a heap of the first n; the others are where they were. -/
def DnPost (W : World) (v b cap n : Nat) (L : List Wt) (e : Ending) (w' : World) : Prop :=
  ∃ r M, e = .returned (.bool r) ∧ QV w' v b cap M ∧ Hp M n ∧ M.Perm L ∧ (∀ t, n ≤ t → t < L.length → qn M t = qn L t) ∧ M.length = L.length ∧ KeptOut b (v + 1) W w'
theorem child {c k : Nat} (h : 0 < c) (e : (c - 1) / 2 = k) : c = 2 * k + 1 ∨ c = 2 * k + 2 := by omega
theorem swp_tail {L M : List Wt} {n i j : Nat} (hM : M.length = L.length) (hi : i < n) (hj : j < n) (_hn : n ≤ L.length) (h : ∀ t, n ≤ t → t < L.length → qn M t = qn L t) : ∀ t, n ≤ t → t < L.length → qn (swp M i j) t = qn L t := fun t h1 h2 => by
  rw [qn_swp (by omega) (by omega) t (by omega), if_neg (by omega), if_neg (by omega)]
  exact h t h1 h2
set_option maxRecDepth 10000 in
set_option maxHeartbeats 8000000 in
theorem down_any (W : World) (v b cap : Nat) (L : List Wt) (h : QV W v b cap L) (n : Nat) (hn : n ≤ L.length) (hd : HpDn L n 0) :
    Calls Try.prog 66 #[.iface 58 (.pointer (some ⟨v, 0, none⟩)), .int .i64 0, .int .i64 (n : Int)] W (DnPost W v b cap n L) := by
  have HQ0 := Lib.hid h
  have HU0 := Lib.hid hd
  have HN := Lib.hid hn
  have hn8 : n ≤ 8 := Nat.le_trans hn h.len
  clear h hd hn
  go_enter Try.func66, Try.ntmps66
  go_wp2
  go_loopw [7] (fun i wr => ∃ (k : Nat) (M : List Wt), k ≤ n ∧ M.length = L.length ∧ i = .int .i64 (k : Int) ∧ QV wr v b cap M ∧ HpDn M n k ∧ M.Perm L ∧ (∀ t, n ≤ t → t < L.length → qn M t = qn L t) ∧ KeptOut b (v + 1) W wr) (fun i _ => n + 1 - (intOf i).toNat)
  case atStart => exact ⟨0, L, Nat.zero_le _, rfl, rfl, HQ0.out, HU0.out, List.Perm.refl _, fun _ _ _ => rfl, KeptOut.refl _ _ _⟩
  case round =>
    obtain ⟨k, M, hk, hML, rfl, hq, hu, hp, htl, hkp⟩ := hrel
    have HQ := Lib.hid hq
    have HU := Lib.hid hu
    have HP := Lib.hid hp
    have HT := Lib.hid htl
    have HK := Lib.hid hkp
    have HKN := Lib.hid hk
    have hnM : n ≤ M.length := by rw [hML]; exact HN.out
    have HNM := Lib.hid hnM
    have HML := Lib.hid hML
    have r0 := wrapW (n := 2 * (k : Int)) (by omega)
    have r0' := wrapW' (n := 2 * (k : Int)) (by omega)
    have r1 := wrapW (n := 2 * (k : Int) + 1) (by omega)
    have r1' := wrapW' (n := 2 * (k : Int) + 1) (by omega)
    have r2 := wrapW (n := 2 * (k : Int) + 1 + 1) (by omega)
    have r2' := wrapW' (n := 2 * (k : Int) + 1 + 1) (by omega)
    clear hq hu hp hkp htl HQ0 HU0 hML
    by_cases h1 : (n : Int) ≤ 2 * (k : Int) + 1
    · have HE := Lib.hid (hpDn_end HU.out fun c c0 hc e => by have := child c0 e; omega)
      clear hnM hk
      go_wp2
      go_ret
      exact ⟨_, M, rfl, HQ.out, HE.out, HP.out, HT.out, HML.out, HK.out⟩
    · have h0 : ¬ (2 * (k : Int) + 1 < 0) := by omega
      have hm1 := mLess HQ.out
      obtain ⟨j1, hj1⟩ : ∃ j1, j1 = 2 * k + 1 := ⟨_, rfl⟩
      obtain ⟨j2, hj2⟩ : ∃ j2, j2 = 2 * k + 2 := ⟨_, rfl⟩
      have e1 : 2 * (k : Int) + 1 = (j1 : Int) := by omega
      have e2 : (j1 : Int) + 1 = (j2 : Int) := by omega
      rw [e1] at r1 r1' r2 r2' h0 h1
      rw [e2] at r2 r2'
      by_cases h2 : (j2 : Int) < (n : Int)
      · by_cases hc : sl M j2 < sl M j1
        · skip
          by_cases hl : sl M j2 < sl M k
          · skip
            have hjn : j2 < n := by omega
            have hmin : ∀ c, 0 < c → c < n → (c - 1) / 2 = k → sl M j2 ≤ sl M c := fun c c0 hc' e => by
              have hcc : c = j1 ∨ c = j2 := by have := child c0 e; omega
              rcases hcc with rfl | rfl <;> omega
            have HL2 := Lib.hid (fun W h => less_is W v b cap M j2 k h (by omega) (by omega) true (decide_eq_true hl))
            have HS := Lib.hid (hpDn_step HU.out hnM (by omega) hjn (by omega) hmin hl)
            have HW := Lib.hid (fun W h => swap_is W v b cap M k j2 h (by omega) (by omega))
            have HE := Lib.hid (show (swp M k j2).length = L.length by rw [swp_length]; exact HML.out)
            have HF := Lib.hid ((swp_perm (L := M) (i := k) (j := j2) (by omega) (by omega)).trans HP.out)
            have HT2 := Lib.hid (swp_tail HML.out (i := k) (j := j2) (by omega) hjn HN.out HT.out)
            have HJ := Lib.hid hjn
            have HJ2 := Lib.hid (show k < j2 by omega)
            have HL1 := Lib.hid (less_is wr v b cap M j2 j1 HQ.out (by omega) (by omega) true (decide_eq_true hc))
            clear hc
            clear hl hmin hjn hnM hk hj1 hj2
            go_wp2_with (first | (go_at_call 88; ((with_reducible refine HL1.out.mono ?_); rintro e w1 ⟨rfl, q1, k1⟩; have Q1 := Lib.hid q1; have K1 := Lib.hid (HK.out.andThen k1); have hm2 := mLess q1; clear q1 k1)) | (go_at_call 88; ((with_reducible refine (HL2.out _ Q1.out).mono ?_); rintro e w2 ⟨rfl, q2, k2⟩; have Q2 := Lib.hid q2; have K2 := Lib.hid (K1.out.andThen k2); have hm3 := mSwap q2; clear q2 k2)) | (go_at_call 89; ((with_reducible refine (HW.out _ Q2.out).mono ?_); rintro e w3 ⟨rfl, q3, k3⟩; have Q3 := Lib.hid q3; have K3 := Lib.hid (K2.out.andThen k3); clear q3 k3)))
            go_roundw
            case rel =>
              have h9 := HJ.out
              exact ⟨j2, _, by omega, HE.out, rfl, Q3.out, HS.out, HF.out, HT2.out, K3.out⟩
            case measure => have h8 := HJ.out; have h9 := HJ2.out; simp [intOf]; omega
          · skip
            have hjn : j2 < n := by omega
            have hmin : ∀ c, 0 < c → c < n → (c - 1) / 2 = k → sl M j2 ≤ sl M c := fun c c0 hc' e => by
              have hcc : c = j1 ∨ c = j2 := by have := child c0 e; omega
              rcases hcc with rfl | rfl <;> omega
            have HL2 := Lib.hid (fun W h => less_is W v b cap M j2 k h (by omega) (by omega) false (decide_eq_false hl))
            have HE := Lib.hid (hpDn_end HU.out fun c c0 hc' e => Nat.le_trans (Nat.not_lt.1 hl) (hmin c c0 hc' e))
            have HL1 := Lib.hid (less_is wr v b cap M j2 j1 HQ.out (by omega) (by omega) true (decide_eq_true hc))
            clear hc
            clear hl hmin hjn hnM hk hj1 hj2
            go_wp2_with (first | (go_at_call 88; ((with_reducible refine HL1.out.mono ?_); rintro e w1 ⟨rfl, q1, k1⟩; have Q1 := Lib.hid q1; have K1 := Lib.hid (HK.out.andThen k1); have hm2 := mLess q1; clear q1 k1)) | (go_at_call 88; ((with_reducible refine (HL2.out _ Q1.out).mono ?_); rintro e w2 ⟨rfl, q2, k2⟩; have Q2 := Lib.hid q2; have K2 := Lib.hid (K1.out.andThen k2); clear q2 k2)))
            go_ret
            exact ⟨_, M, rfl, Q2.out, HE.out, HP.out, HT.out, HML.out, K2.out⟩
        · skip
          by_cases hl : sl M j1 < sl M k
          · skip
            have hjn : j1 < n := by omega
            have hmin : ∀ c, 0 < c → c < n → (c - 1) / 2 = k → sl M j1 ≤ sl M c := fun c c0 hc' e => by
              have hcc : c = j1 ∨ c = j2 := by have := child c0 e; omega
              rcases hcc with rfl | rfl <;> omega
            have HL2 := Lib.hid (fun W h => less_is W v b cap M j1 k h (by omega) (by omega) true (decide_eq_true hl))
            have HS := Lib.hid (hpDn_step HU.out hnM (by omega) hjn (by omega) hmin hl)
            have HW := Lib.hid (fun W h => swap_is W v b cap M k j1 h (by omega) (by omega))
            have HE := Lib.hid (show (swp M k j1).length = L.length by rw [swp_length]; exact HML.out)
            have HF := Lib.hid ((swp_perm (L := M) (i := k) (j := j1) (by omega) (by omega)).trans HP.out)
            have HT2 := Lib.hid (swp_tail HML.out (i := k) (j := j1) (by omega) hjn HN.out HT.out)
            have HJ := Lib.hid hjn
            have HJ2 := Lib.hid (show k < j1 by omega)
            have HL1 := Lib.hid (less_is wr v b cap M j2 j1 HQ.out (by omega) (by omega) false (decide_eq_false hc))
            clear hc
            clear hl hmin hjn hnM hk hj1 hj2
            go_wp2_with (first | (go_at_call 88; ((with_reducible refine HL1.out.mono ?_); rintro e w1 ⟨rfl, q1, k1⟩; have Q1 := Lib.hid q1; have K1 := Lib.hid (HK.out.andThen k1); have hm2 := mLess q1; clear q1 k1)) | (go_at_call 88; ((with_reducible refine (HL2.out _ Q1.out).mono ?_); rintro e w2 ⟨rfl, q2, k2⟩; have Q2 := Lib.hid q2; have K2 := Lib.hid (K1.out.andThen k2); have hm3 := mSwap q2; clear q2 k2)) | (go_at_call 89; ((with_reducible refine (HW.out _ Q2.out).mono ?_); rintro e w3 ⟨rfl, q3, k3⟩; have Q3 := Lib.hid q3; have K3 := Lib.hid (K2.out.andThen k3); clear q3 k3)))
            go_roundw
            case rel =>
              have h9 := HJ.out
              exact ⟨j1, _, by omega, HE.out, rfl, Q3.out, HS.out, HF.out, HT2.out, K3.out⟩
            case measure => have h8 := HJ.out; have h9 := HJ2.out; simp [intOf]; omega
          · skip
            have hjn : j1 < n := by omega
            have hmin : ∀ c, 0 < c → c < n → (c - 1) / 2 = k → sl M j1 ≤ sl M c := fun c c0 hc' e => by
              have hcc : c = j1 ∨ c = j2 := by have := child c0 e; omega
              rcases hcc with rfl | rfl <;> omega
            have HL2 := Lib.hid (fun W h => less_is W v b cap M j1 k h (by omega) (by omega) false (decide_eq_false hl))
            have HE := Lib.hid (hpDn_end HU.out fun c c0 hc' e => Nat.le_trans (Nat.not_lt.1 hl) (hmin c c0 hc' e))
            have HL1 := Lib.hid (less_is wr v b cap M j2 j1 HQ.out (by omega) (by omega) false (decide_eq_false hc))
            clear hc
            clear hl hmin hjn hnM hk hj1 hj2
            go_wp2_with (first | (go_at_call 88; ((with_reducible refine HL1.out.mono ?_); rintro e w1 ⟨rfl, q1, k1⟩; have Q1 := Lib.hid q1; have K1 := Lib.hid (HK.out.andThen k1); have hm2 := mLess q1; clear q1 k1)) | (go_at_call 88; ((with_reducible refine (HL2.out _ Q1.out).mono ?_); rintro e w2 ⟨rfl, q2, k2⟩; have Q2 := Lib.hid q2; have K2 := Lib.hid (K1.out.andThen k2); clear q2 k2)))
            go_ret
            exact ⟨_, M, rfl, Q2.out, HE.out, HP.out, HT.out, HML.out, K2.out⟩
      · skip
        by_cases hl : sl M j1 < sl M k
        · skip
          have hjn : j1 < n := by omega
          have hmin : ∀ c, 0 < c → c < n → (c - 1) / 2 = k → sl M j1 ≤ sl M c := fun c c0 hc' e => by
            obtain rfl : c = j1 := by have := child c0 e; omega
            exact Nat.le_refl _
          have HL2 := Lib.hid (fun W h => less_is W v b cap M j1 k h (by omega) (by omega) true (decide_eq_true hl))
          have HS := Lib.hid (hpDn_step HU.out hnM (by omega) hjn (by omega) hmin hl)
          have HW := Lib.hid (fun W h => swap_is W v b cap M k j1 h (by omega) (by omega))
          have HE := Lib.hid (show (swp M k j1).length = L.length by rw [swp_length]; exact HML.out)
          have HF := Lib.hid ((swp_perm (L := M) (i := k) (j := j1) (by omega) (by omega)).trans HP.out)
          have HT2 := Lib.hid (swp_tail HML.out (i := k) (j := j1) (by omega) hjn HN.out HT.out)
          have HJ := Lib.hid hjn
          have HJ2 := Lib.hid (show k < j1 by omega)
          clear hl hmin hjn hnM hk hj1 hj2
          have Q1 := HQ
          have K1 := HK
          go_wp2_with (first | (go_at_call 88; ((with_reducible refine (HL2.out _ Q1.out).mono ?_); rintro e w2 ⟨rfl, q2, k2⟩; have Q2 := Lib.hid q2; have K2 := Lib.hid (K1.out.andThen k2); have hm3 := mSwap q2; clear q2 k2)) | (go_at_call 89; ((with_reducible refine (HW.out _ Q2.out).mono ?_); rintro e w3 ⟨rfl, q3, k3⟩; have Q3 := Lib.hid q3; have K3 := Lib.hid (K2.out.andThen k3); clear q3 k3)))
          go_roundw
          case rel =>
            have h9 := HJ.out
            exact ⟨j1, _, by omega, HE.out, rfl, Q3.out, HS.out, HF.out, HT2.out, K3.out⟩
          case measure => have h8 := HJ.out; have h9 := HJ2.out; simp [intOf]; omega
        · skip
          have hjn : j1 < n := by omega
          have hmin : ∀ c, 0 < c → c < n → (c - 1) / 2 = k → sl M j1 ≤ sl M c := fun c c0 hc' e => by
            obtain rfl : c = j1 := by have := child c0 e; omega
            exact Nat.le_refl _
          have HL2 := Lib.hid (fun W h => less_is W v b cap M j1 k h (by omega) (by omega) false (decide_eq_false hl))
          have HE := Lib.hid (hpDn_end HU.out fun c c0 hc' e => Nat.le_trans (Nat.not_lt.1 hl) (hmin c c0 hc' e))
          clear hl hmin hjn hnM hk hj1 hj2
          have Q1 := HQ
          have K1 := HK
          go_wp2_with (first | (go_at_call 88; ((with_reducible refine (HL2.out _ Q1.out).mono ?_); rintro e w2 ⟨rfl, q2, k2⟩; have Q2 := Lib.hid q2; have K2 := Lib.hid (K1.out.andThen k2); clear q2 k2)))
          go_ret
          exact ⟨_, M, rfl, Q2.out, HE.out, HP.out, HT.out, HML.out, K2.out⟩
end Go.Proofs.Ytenihedpbklmlaa
