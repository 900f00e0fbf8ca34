/-
  What the library's heap.Push and heap.Pop leave of the queue. Conditions: the queue lies there and is a heap; room; not empty.
-/
import Derived.Test.YtenihedpbklmlaaAcc5
namespace Go.Proofs.Ytenihedpbklmlaa
open Go.RowKit

set_option maxRecDepth 10000 in
theorem len_is (W : World) (v b cap : Nat) (L : List Wt) (h : QV W v b cap L) :
    Calls Try.prog 87 #[.slice (some ⟨b, 0, none⟩) L.length cap] W (QPost W v b cap L (.int .i64 (L.length : Int))) :=
  (qLen_any W b L.length cap).mono fun _ _ ⟨h1, h2⟩ => by
    subst h2
    exact ⟨h1, h, KeptOut.refl _ _ _⟩
/-- What Push leaves: one sender more. -/
def PushPost (W : World) (v b cap : Nat) (L : List Wt) (y : Wt) (e : Ending) (w' : World) : Prop :=
  e = .returned (.tuple #[]) ∧ ∃ M, QV w' v b cap M ∧ Hp M M.length ∧ M.Perm (L ++ [y]) ∧ KeptOut b (v + 1) W w'
set_option maxRecDepth 10000 in
set_option maxHeartbeats 4000000 in
theorem push_any (W : World) (v b cap : Nat) (L : List Wt) (y : Wt) (h : QV W v b cap L) (hh : Hp L L.length) (hl : L.length < cap) :
    Calls Try.prog 42 #[.iface 58 (.pointer (some ⟨v, 0, none⟩)), .iface 56 (wtV y)] W (PushPost W v b cap L y) := by
  have H1 := Lib.hid (qPush_any W v b cap L y h hl)
  have HU := Lib.hid (hpUp_push hh y)
  have hL8 := h.len
  obtain ⟨M, hM⟩ : ∃ M, M = L ++ [y] := ⟨_, rfl⟩
  have hML : (M.length : Int) - 1 = (L.length : Int) := by rw [hM]; simp
  have HLM := Lib.hid (show L.length < M.length by rw [hM]; simp)
  have r1 := wrapW (n := (L.length : Int)) (by omega)
  have r1' := wrapW' (n := (L.length : Int)) (by omega)
  unfold PushPost
  rw [← hM] at H1 HU ⊢
  obtain ⟨n, hn⟩ : ∃ n, n = L.length := ⟨_, rfl⟩
  rw [← hn] at hML HLM r1 r1' HU
  have hm0 := mPush v
  generalize wtV y = yv at *
  clear h hh hl hM hn hL8
  go_enter Try.func42, Try.ntmps42
  go_wp2_with (first
    | (go_at_call 91; ((with_reducible refine H1.out.mono ?_); rintro e w1 ⟨rfl, q1, k1⟩; have Q1 := Lib.hid q1; have K1 := Lib.hid k1; have hm1 := mLen q1; clear q1 k1))
    | (go_at_call 87; ((with_reducible refine (len_is _ v b cap M Q1.out).mono ?_); rintro e w2 ⟨rfl, q2, k2⟩; have Q2 := Lib.hid q2; have K2 := Lib.hid (K1.out.andThen k2); clear q2 k2))
    | (go_at_call 57; ((with_reducible refine (up_any _ v b cap M Q2.out n HLM.out HU.out).mono ?_); rintro e w3 ⟨rfl, M3, q3, hp3, pm3, k3⟩; have HF := Lib.hid (And.intro q3 (And.intro hp3 (And.intro pm3 (K2.out.andThen k3)))); clear q3 hp3 pm3 k3)))
  go_end0
  exact ⟨rfl, M3, HF.out⟩
/-- What Pop leaves: a least sender is gone. -/
def PopPost (W : World) (v b cap n : Nat) (L : List Wt) (e : Ending) (w' : World) : Prop :=
  e = .returned (.iface 56 (wtV (qn L 0))) ∧ ∃ M, QV w' v b cap M ∧ Hp M M.length ∧ L.Perm (M ++ [qn L 0]) ∧ M.length = n ∧ KeptOut b (v + 1) W w'
set_option maxRecDepth 10000 in
set_option maxHeartbeats 4000000 in
theorem pop_any (W : World) (v b cap n : Nat) (L : List Wt) (h : QV W v b cap L) (hh : Hp L L.length) (hn : L.length = n + 1) :
    Calls Try.prog 56 #[.iface 58 (.pointer (some ⟨v, 0, none⟩))] W (PopPost W v b cap n L) := by
  have HQ := Lib.hid h
  have HN := Lib.hid hn
  have HD := Lib.hid (hpDn_pop hh hn)
  have hn8 : n ≤ 7 := by have := h.len; omega
  obtain ⟨S, hS⟩ : ∃ S, S = swp L 0 n := ⟨_, rfl⟩
  have H2 := Lib.hid (show ∀ W, QV W v b cap L → Calls Try.prog 89 #[.slice (some ⟨b, 0, none⟩) L.length cap, .int .i64 0, .int .i64 (n : Int)] W (QPost W v b cap (swp L 0 n) (.tuple #[])) from fun W h => swap_is W v b cap L 0 n h (by omega) (by omega))
  have hSl : S.length = n + 1 := by rw [hS, swp_length, hn]
  have hSn : qn S n = qn L 0 := by rw [hS, qn_swp (by omega) (by omega) n (by omega), if_pos rfl]
  have hSp : S.Perm L := by rw [hS]; exact swp_perm (by omega) (by omega)
  rw [← hS] at HD H2
  have HS := Lib.hid (And.intro hSl (And.intro hSn hSp))
  have hL1 : (L.length : Int) - 1 = (n : Int) := by omega
  have r1 := wrapW (n := (n : Int)) (by omega)
  have r1' := wrapW' (n := (n : Int)) (by omega)
  have hm0 := mLen h
  have hm9 := mPop v
  clear h hh hn hS hSl hSn hSp
  go_enter Try.func56, Try.ntmps56
  go_wp2_with (first
    | (go_at_call 87; ((with_reducible refine (len_is _ v b cap L HQ.out).mono ?_); rintro e w1 ⟨rfl, q1, k1⟩; have Q1 := Lib.hid q1; have K1 := Lib.hid k1; have hm1 := mSwap q1; clear q1 k1))
    | (go_at_call 89; ((with_reducible refine (H2.out _ Q1.out).mono ?_); rintro e w2 ⟨rfl, q2, k2⟩; have Q2 := Lib.hid q2; have K2 := Lib.hid (K1.out.andThen k2); clear q2 k2))
    | (go_at_call 66; ((with_reducible refine (down_any _ v b cap S Q2.out n (by have := HS.out.1; omega) HD.out).mono ?_); rintro e w3 ⟨rb, M3, rfl, q3, hp3, pm3, tl3, hl3, k3⟩; have Q3 := Lib.hid q3; have K3 := Lib.hid (K2.out.andThen k3); have HF := Lib.hid (And.intro hp3 (And.intro pm3 (And.intro tl3 hl3))); clear q3 hp3 pm3 tl3 hl3 k3))
    | (go_at_call 90; ((with_reducible refine (qPop_any _ v b cap M3 Q3.out n (by have h1 := HF.out.2.2.2; have h2 := HS.out.1; omega)).mono ?_); rintro e w4 ⟨rfl, q4, k4⟩; have Q4 := Lib.hid q4; have K4 := Lib.hid (K3.out.andThen k4); clear q4 k4)))
  go_ret
  obtain ⟨h1, h2, h3, h4⟩ := HF.out
  obtain ⟨g1, g2, g3⟩ := HS.out
  have hl : M3.length = n + 1 := by omega
  have e1 : qn M3 n = qn L 0 := by rw [h3 n (Nat.le_refl _) (by omega), g2]
  refine ⟨by rw [e1]; rfl, M3.take n, Q4.out, hp_take h1 (by omega), ?_, by rw [List.length_take]; omega, K4.out⟩
  rw [← e1, ← take_last hl]
  exact (h2.trans g3).symm
end Go.Proofs.Ytenihedpbklmlaa
