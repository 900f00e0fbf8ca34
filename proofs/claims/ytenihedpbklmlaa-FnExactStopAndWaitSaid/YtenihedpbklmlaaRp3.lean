/-
  The senders of going back and of selective repetition: what lies in memory; what their methods answer and leave; the library's index of a Boolean. Conditions: the sender lies there; a message below the number of messages.
-/
import Derived.Test.YtenihedpbklmlaaRp2
import Derived.BigRegion
namespace Go.Proofs.Ytenihedpbklmlaa
open Go.RowKit

structure BkM (W : World) (A n v s : Nat) : Prop where
  box : Box3 W A 73 (.int .i64 (n : Int)) (.int .i64 (v : Int)) (.int .i64 (s : Int))
  n30 : n ≤ 30
  v8 : 1 ≤ v ∧ v ≤ 8
  sn : s ≤ n
section
variable {W W' : World} {A n v s : Nat}
theorem BkM.next {B : Nat} (h : BkM W A n v s) (hb : Below B W W') (hB : A + 1 ≤ B) : BkM W' A n v s := ⟨h.box.next hb (by omega), h.n30, h.v8, h.sn⟩
theorem BkM.lt (h : BkM W A n v s) : A + 1 ≤ W.heap.size := h.box.lt
end
theorem gbEnd {n v s : Nat} (h : s ≤ n) : (if (n : Int) < (s : Int) + (v : Int) then (n : Int) else (s : Int) + (v : Int)) = ((s + gbLen n v s : Nat) : Int) := by
  unfold gbLen
  split <;> omega
theorem up_snoc (b c : Nat) : up b (c + 1) = up b c ++ [((b + c : Nat) : Int)] := rfl
set_option maxRecDepth 10000 in
set_option maxHeartbeats 2000000 in
theorem bkNext_any (W : World) (A n v s : Nat) (h : BkM W A n v s) :
    Calls Try.prog 95 #[.pointer (some ⟨A, 0, none⟩)] W (ListPostC (bkR n v s) W) := by
  have H := Lib.hid h
  have c2 := h.box.c2
  have hlen : gbLen n v s ≤ 8 := by have := h.v8; unfold gbLen; omega
  have HE := Lib.hid (gbEnd (v := v) h.sn)
  have hs30 : s ≤ 30 := Nat.le_trans h.sn h.n30
  have hv8 := h.v8
  unfold bkR
  generalize gbLen n v s = g at hlen HE ⊢
  clear h
  go_enter Try.func95, Try.ntmps95
  go_wp2
  clear c2
  go_loopw [3, 4] (fun R i wr => ∃ k m cap : Nat, ∃ ad : Option Addr, k ≤ g ∧ m = s + k ∧ i = .int .i64 (m : Int) ∧ R = .slice ad k cap ∧ Grow .i64 3 wr W.heap.size ad k cap (up s k) ∧ Below W.heap.size W wr) (fun _ i _ => s + g - (intOf i).toNat)
  case atStart => exact ⟨0, s, 0, none, Nat.zero_le _, rfl, rfl, rfl, Grow.nil _ _ _ _, Below.refl _ _⟩
  case round =>
    obtain ⟨k, m, cap, ad, hk, hm, rfl, rfl, hgr, hbl⟩ := hrel
    have HG := Lib.hid hgr
    have HB := Lib.hid hbl
    have hsz : W.heap.size ≤ wr.heap.size := hbl.size
    have H2 := H.out.next hbl H.out.lt
    have c0 := H2.box.c0
    have c1 := H2.box.c1
    have c2 := H2.box.c2
    have hif := HE.out
    have HUp := Lib.hid (show up s (k + 1) = up s k ++ [(m : Int)] by rw [up_snoc, hm])
    have HMk := Lib.hid hm
    have r1 := wrapW (n := (s : Int) + (v : Int)) (by omega)
    have r1' := wrapW' (n := (s : Int) + (v : Int)) (by omega)
    clear hgr hbl H2
    by_cases hlt : k < g
    · have hd : (m : Int) < ((s + g : Nat) : Int) := by omega
      have hd' : decide ((m : Int) < ((s + g : Nat) : Int)) = true := decide_eq_true hd
      generalize hEE : s + g = E at hif hd hd' ⊢
      have HEE := Lib.hid hEE
      have hm31 : m ≤ 38 := by omega
      clear hm hEE
      go_wp2
      go_region
      clear hif r1 r1' c0 c1 c2
      go_wp2_with (at_builtin; refine wpList_append1 (.tmp 27) (.tmp 29) W.heap.size ad k cap (up s k) ⟨wr.heap.size, 0, none⟩ (m : Int) rfl rfl rfl rfl (HG.out.alloc _).drew (by simp) (by omega) (by simp; omega) ?_; intro a2 cap2 w6 hg2 hb2; have HG2 := Lib.hid hg2; have HB2 := Lib.hid ((HB.out.alloc hsz _).drew.trans hb2); clear hg2 hb2)
      go_roundw
      case rel => exact ⟨k + 1, m + 1, cap2, a2, by omega, by have := HMk.out; omega, by go_num, rfl, by rw [HUp.out]; exact HG2.out, HB2.out⟩
      case measure => have := HMk.out; have := HEE.out; simp [intOf]; omega
    · obtain rfl : g = k := by omega
      have hd : ¬ (m : Int) < ((s + g : Nat) : Int) := by omega
      have hd' : decide ((m : Int) < ((s + g : Nat) : Int)) = false := decide_eq_false hd
      clear hm
      generalize s + g = E at hif hd hd' ⊢
      go_wp2
      go_region
      go_wp2
      go_ret
      exact listPostC_grow HG.out HB.out.drew
set_option maxRecDepth 10000 in
set_option maxHeartbeats 1000000 in
theorem bkArrive_any (W : World) (A n v s x : Nat) (t : Int) (h : BkM W A n v s) (hx : x < n) :
    Calls Try.prog 94 #[.pointer (some ⟨A, 0, none⟩), .int .i64 (x : Int), .int .i64 t] W fun e w' => e = .returned (.tuple #[]) ∧ BkM w' A n v (bkA s x 0) ∧ KeptOut A (A + 1) W w' := by
  have H := Lib.hid h
  have c2 := h.box.c2
  have f2 := h.box.frozen 2
  have hn := h.n30
  by_cases e : x = s
  · have HE : Hid (bkA s x 0 = s + 1) := Lib.hid (if_pos e)
    have z : ((x : Int) == (s : Int)) = true := by simp [e]
    have hs : s < n := by omega
    have r1 := wrapW (n := (s : Int) + 1) (by omega)
    have r1' := wrapW' (n := (s : Int) + 1) (by omega)
    clear h e hx
    go_enter Try.func94, Try.ntmps94
    go_wp2
    go_end0
    exact ⟨rfl, by rw [HE.out]; exact ⟨H.out.box.set2 _, H.out.n30, H.out.v8, hs⟩, keptOut_set W 2 _ (Nat.le_refl _) (by omega)⟩
  · have HE : Hid (bkA s x 0 = s) := Lib.hid (if_neg e)
    have z : ((x : Int) == (s : Int)) = false := by simp; omega
    clear h e hx
    go_enter Try.func94, Try.ntmps94
    go_wp2
    go_end0
    exact ⟨rfl, by rw [HE.out]; exact H.out, KeptOut.refl _ _ _⟩

structure SlM (W : World) (A n v : Nat) (d : Nat → Bool) : Prop where
  row : W.rowIs A 4 n (fun i => .bool (d i))
  box : W.rowIs (A + 1) 76 2 (fun i => if i = 0 then .int .i64 (v : Int) else .slice (some ⟨A, 0, none⟩) n n)
  n30 : n ≤ 30
  v8 : 1 ≤ v ∧ v ≤ 8
section
variable {W W' : World} {A n v : Nat} {d : Nat → Bool}
theorem SlM.next {B : Nat} (h : SlM W A n v d) (hb : Below B W W') (hB : A + 2 ≤ B) : SlM W' A n v d := ⟨h.row.of_block (hb.block A (by omega)), h.box.of_block (hb.block (A + 1) (by omega)), h.n30, h.v8⟩
theorem SlM.lt (h : SlM W A n v d) : A + 2 ≤ W.heap.size := World.rowIs.lt h.box
theorem SlM.c0 (h : SlM W A n v d) : W.cell? ⟨A + 1, 0, none⟩ = some (.int .i64 (v : Int)) := World.rowIs.cell h.box (by decide)
theorem SlM.c1 (h : SlM W A n v d) : W.cell? ⟨A + 1, 1, none⟩ = some (.slice (some ⟨A, 0, none⟩) n n) := World.rowIs.cell h.box (by decide)
end
set_option maxRecDepth 10000 in
set_option maxHeartbeats 1000000 in
theorem indexB_is (W : World) (A n v : Nat) (d : Nat → Bool) (h : SlM W A n v d) (r : Int) (hr : (if slU n d < n then ((slU n d : Nat) : Int) else -1) = r) :
    Calls Try.prog 98 #[.slice (some ⟨A, 0, none⟩) n n, .bool false] W fun e w' => e = .returned (.int .i64 r) ∧ W = w' := by
  have H := Lib.hid h
  have HS := Lib.hid (slU_at n d)
  have HR := Lib.hid hr
  have hn := h.n30
  clear h hr
  go_enter Try.func98, Try.ntmps98
  go_wp2
  go_loop [8] (fun i => ∃ k : Nat, k ≤ slU n d ∧ i = .int .i64 k) (fun i => n - (intOf i).toNat)
  case atStart => exact ⟨0, Nat.zero_le _, rfl⟩
  case round =>
    obtain ⟨k, hk, rfl⟩ := hrel
    have hu := HS.out.1
    by_cases hlt : k < n
    · have ck := World.rowIs.cell H.out.row hlt
      have hltI : (k : Int) < (n : Int) := by omega
      by_cases hb : k < slU n d
      · have hdk : d k = true := HS.out.2.1 k hb
        rw [hdk] at ck
        clear hdk
        go_wp2
        go_round
        case rel => exact ⟨k + 1, by omega, by go_num⟩
        case measure => simp [intOf]; omega
      · have ek : slU n d = k := by omega
        have hdk : d k = false := by have := HS.out.2.2 (by omega); rw [ek] at this; exact this
        rw [hdk] at ck
        have HF := Lib.hid (show r = (k : Int) by rw [← HR.out, ek, if_pos hlt])
        clear hdk ek hb hk hu
        go_wp2
        go_ret
        exact ⟨ret_int HF.out.symm, rfl⟩
    · have HF := Lib.hid (show r = -1 by rw [← HR.out, if_neg (by omega)])
      have hltI : ¬ (k : Int) < (n : Int) := by omega
      clear hk hu
      go_wp2
      go_ret
      exact ⟨ret_int HF.out.symm, rfl⟩
set_option maxRecDepth 10000 in
theorem slA_set {W : World} {A n : Nat} {d : Nat → Bool} (h : W.rowIs A 4 n (fun i => .bool (d i))) (x : Nat) : (W.setCell ⟨A, x, none⟩ (.bool true)).rowIs A 4 n (fun i => .bool (slA d x 0 i)) :=
  (World.rowIs.set h x (.bool true)).congr fun i _ => by
    unfold slA
    by_cases e : i = x
    · simp [e]
    · simp [e]
set_option maxRecDepth 10000 in
set_option maxHeartbeats 1000000 in
theorem slArrive_any (W : World) (A n v : Nat) (d : Nat → Bool) (x : Nat) (t : Int) (h : SlM W A n v d) (hx : x < n) :
    Calls Try.prog 96 #[.pointer (some ⟨A + 1, 0, none⟩), .int .i64 (x : Int), .int .i64 t] W fun e w' => e = .returned (.tuple #[]) ∧ SlM w' A n v (slA d x 0) ∧ KeptOut A (A + 2) W w' := by
  have H := Lib.hid h
  have c1 := h.c1
  have ck := World.rowIs.cell h.row hx
  have fk := World.rowIs.frozen h.row x
  have hxI : (x : Int) < (n : Int) := by omega
  clear h
  go_enter Try.func96, Try.ntmps96
  go_wp2
  go_end0
  exact ⟨rfl, ⟨slA_set H.out.row x, World.rowIs.of_block H.out.box (Below.heap_setCell W ⟨A, x, none⟩ _ _ (by show A + 1 ≠ A; omega)), H.out.n30, H.out.v8⟩, keptOut_set W x _ (Nat.le_refl _) (by omega)⟩
set_option maxRecDepth 10000 in
set_option maxHeartbeats 2000000 in
theorem slNext_any (W : World) (A n v : Nat) (d : Nat → Bool) (h : SlM W A n v d) :
    Calls Try.prog 97 #[.pointer (some ⟨A + 1, 0, none⟩)] W (ListPostC (slR n v d) W) := by
  have H := Lib.hid h
  have c1 := h.c1
  have hn30 := h.n30
  have hv8 := h.v8
  have hlen : gbLen n v (slU n d) ≤ 8 := by unfold gbLen; omega
  have hsn := (slU_at n d).1
  have HE := Lib.hid (gbEnd (v := v) hsn)
  have hgl : slU n d + gbLen n v (slU n d) ≤ n := by have := gbLen_le n v (slU n d); omega
  unfold slR
  by_cases hlt : slU n d < n
  · have HI := Lib.hid (indexB_is W A n v d h (slU n d : Nat) (if_pos hlt))
    generalize slU n d = b at *
    generalize gbLen n v b = g at *
    have hb0 : ¬ (b : Int) < 0 := by omega
    clear h
    go_enter Try.func97, Try.ntmps97
    go_wp2_with (go_at_call 98; ((with_reducible refine HI.out.mono ?_); rintro e w1 ⟨rfl, rfl⟩))
    clear c1
    go_loopw [4, 5] (fun R i wr => ∃ k m cap q : Nat, ∃ ad : Option Addr, k ≤ g ∧ q ≤ k ∧ m = b + k ∧ i = .int .i64 (m : Int) ∧ R = .slice ad q cap ∧ Grow .i64 3 wr W.heap.size ad q cap (slF d b k) ∧ Below W.heap.size W wr) (fun _ i _ => b + g - (intOf i).toNat)
    case atStart => exact ⟨0, b, 0, 0, none, Nat.zero_le _, Nat.le_refl _, rfl, rfl, rfl, Grow.nil _ _ _ _, Below.refl _ _⟩
    case round =>
      obtain ⟨k, m, cap, q, ad, hk, hqk, hm, rfl, rfl, hgr, hbl⟩ := hrel
      have HG := Lib.hid hgr
      have HB := Lib.hid hbl
      have hsz : W.heap.size ≤ wr.heap.size := hbl.size
      have H2 := H.out.next hbl H.out.lt
      have c0 := H2.c0
      have c1 := H2.c1
      have hif := HE.out
      have r1 := wrapW (n := (b : Int) + (v : Int)) (by omega)
      have r1' := wrapW' (n := (b : Int) + (v : Int)) (by omega)
      clear hgr hbl
      by_cases hlk : k < g
      · have hmn : m < n := by omega
        have hmnI : (m : Int) < (n : Int) := by omega
        have ck := World.rowIs.cell H2.row hmn
        have HUp := Lib.hid (show slF d b (k + 1) = if d m then slF d b k else slF d b k ++ [(m : Int)] by rw [slF_next, hm])
        have hd : (m : Int) < ((b + g : Nat) : Int) := by omega
        have hd' : decide ((m : Int) < ((b + g : Nat) : Int)) = true := decide_eq_true hd
        have HMk := Lib.hid (show m + 1 = b + (k + 1) by omega)
        have hm31 : m ≤ 38 := by omega
        clear H2 hm
        generalize hEE : b + g = E at hif hd hd' ⊢
        have HEE := Lib.hid hEE
        clear hEE
        cases hdm : d m
        · rw [hdm] at ck HUp
          clear hdm
          go_wp2
          go_region
          clear hif r1 r1'
          go_wp2_with (at_builtin; refine wpList_append1 (.tmp 38) (.tmp 40) W.heap.size ad q cap (slF d b k) ⟨wr.heap.size, 0, none⟩ (m : Int) rfl rfl rfl rfl (HG.out.alloc _).drew (by simp) (by omega) (by simp; omega) ?_; intro a2 cap2 w6 hg2 hb2; have HG2 := Lib.hid hg2; have HB2 := Lib.hid ((HB.out.alloc hsz _).drew.trans hb2); clear hg2 hb2)
          go_roundw
          case rel => exact ⟨k + 1, m + 1, cap2, q + 1, a2, by omega, by omega, HMk.out, by go_num, rfl, by rw [HUp.out]; exact HG2.out, HB2.out⟩
          case measure => have := HEE.out; have := HMk.out; simp [intOf]; omega
        · rw [hdm] at ck HUp
          clear hdm
          go_wp2
          go_region
          clear hif r1 r1'
          go_wp2
          go_roundw
          case rel => exact ⟨k + 1, m + 1, cap, q, ad, by omega, by omega, HMk.out, by go_num, rfl, by rw [HUp.out]; exact HG.out, HB.out.drew⟩
          case measure => have := HEE.out; have := HMk.out; simp [intOf]; omega
      · obtain rfl : g = k := by omega
        have hd : ¬ (m : Int) < ((b + g : Nat) : Int) := by omega
        have hd' : decide ((m : Int) < ((b + g : Nat) : Int)) = false := decide_eq_false hd
        clear H2 hm
        generalize b + g = E at hif hd hd' ⊢
        go_wp2
        go_region
        go_wp2
        go_ret
        exact listPostC_grow HG.out HB.out.drew
  · have HI := Lib.hid (indexB_is W A n v d h (-1) (if_neg hlt))
    have HR := Lib.hid (show slF d (slU n d) (gbLen n v (slU n d)) = [] by rw [show gbLen n v (slU n d) = 0 by unfold gbLen; omega]; rfl)
    rw [HR.out]
    clear h hlen hgl HE hsn hlt
    go_enter Try.func97, Try.ntmps97
    go_wp2_with (go_at_call 98; ((with_reducible refine HI.out.mono ?_); rintro e w1 ⟨rfl, rfl⟩))
    go_ret
    exact listPostC_nil (Below.refl _ _)
end Go.Proofs.Ytenihedpbklmlaa
