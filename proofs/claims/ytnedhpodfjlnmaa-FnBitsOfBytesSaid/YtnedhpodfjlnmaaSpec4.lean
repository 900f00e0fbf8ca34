/-
  What the model's BytesOfBits answers. No condition.
-/
import Derived.Test.YtnedhpodfjlnmaaSpec3
namespace Go.Proofs.Ytnedhpodfjlnmaa
open Go.RowKit

section
variable {w : World} {ops : Array Oper} {rest : List Oper} {o : Oper} {a : Act} {Q : Exit → Act → World → Prop}
theorem wpList_appendB (s x : Operand) (base : Nat) (A : Option Addr) (n cap : Nat) (xs : List Int) (ad : Addr) (v : Int)
    (hgd : o.guard = none) (ho : o.op = .call { callee := .builtin .append, args := #[s, x], argTypes := #[22, 22] }) (hs : a.eval s = .slice A n cap) (hx : a.eval x = .slice (some ad) 1 1)
    (hg : Grow .u8 5 w base A n cap xs) (hc : w.cell? ad = some (.int .u8 v)) (hn : n < 1099511627776) (hb : base ≤ w.heap.size)
    (h : ∀ a' cap' w', Grow .u8 5 w' base a' (n + 1) cap' (xs ++ [v]) → Below base w w' → wpList Try.prog ops Q rest (a.put o.dst (.slice a' (n + 1) cap')) w') : wpList Try.prog ops Q (o :: rest) a w := by
  obtain ⟨i0, hi0, hz0, hz1, hz2⟩ := info_parts Try.infoByte
  refine wpList_append_own w hgd s x _ ho base 5 i0 (.int .u8 0) 1 1 Try.underlying22 hi0 hz0 hz1 hz2 rfl (by omega) _ n _ hs hg ad 1 1 [.int .u8 v] hx rfl ?_ (by simp [Value.oneCell']) (by unfold maxLen; omega) (by omega) hb ?_
  · intro j u hj
    match j, hj with
    | 0, hj => simp at hj; subst hj; simpa [Addr.add] using hc
  · intro v' w' h2 h3 _
    obtain ⟨a', cap', rfl, hgr, hbl⟩ := grow_of_own hg hb h2 h3
    exact h _ _ _ hgr hbl
end
theorem byteList_succ (f : Nat → Bool) (k : Nat) : byteList f (k + 1) = byteList f k ++ [(msb f (8 * k) 8 : Int)] := by
  simp [byteList, List.range_succ]
theorem bytesPost_grow {xs : List Int} {ok : Bool} {w w' : World} {a : Option Addr} {n cap : Nat} (h : Grow .u8 5 w' w.heap.size a n cap xs) (hb : Below w.heap.size w w') : BytesPost xs ok w (.returned (.tuple #[.slice a n cap, .bool ok])) w' := by
  have hl := h.len
  refine ⟨a, cap, by rw [hl], fun hne => ?_, hb⟩
  have hp : 0 < n := by rw [← hl]; exact List.length_pos_iff.2 hne
  obtain ⟨b, f, rfl, h1, _, h3, h4, h5⟩ := h.row hp
  exact ⟨b, cap, rfl, h1, by omega, f, h4, fun i hi => h5 i (by omega)⟩
theorem bitsF_val {xs : List Int} (h : bitsOk xs = true) {j : Nat} (hj : j < xs.length) : el xs j = ((bitsF xs xs.length j).toNat : Int) := by
  unfold bitsF
  rcases bit_cases h hj with e | e <;> rw [e] <;> simp [hj]

set_option maxHeartbeats 1000000 in
theorem specBytesOfBits_any (a : Option Addr) (c B : Nat) (xs : List Int) (w : World) (hx : Ints .i64 w B a xs) (hB : B ≤ w.heap.size) (hl : xs.length ≤ maxLen) :
    Calls Try.prog 25 #[.slice a xs.length c] w (BytesPost (yobOr xs) (packOk xs) w) := by
  have HX := Lib.hid (hx.more hB)
  have HL := Lib.hid hl
  have HXa := Lib.hid fun o : Obj => (hx.more hB).below ((Below.refl w.heap.size w).alloc (Nat.le_refl _) o)
  clear hx hl
  cases hb : bitsOk xs
  · have HPk := Lib.hid (show packOk xs = false by simp [packOk, hb])
    go_enter Try.func25, Try.ntmps25
    go_wp2_with (go_at_call 16; ((with_reducible refine (specBitsValid_any a c w.heap.size xs _ (HXa.out _) HL.out).mono ?_); rintro e w' ⟨rfl, rfl⟩))
    go_ret2
    have hz : yobOr xs = [] := by simp [yobOr, HPk.out]
    rw [hz, HPk.out]
    exact bytesPost_grow (Grow.lit0 _ _ _ _ (Nat.le_refl _)) ((Below.refl _ _).alloc (Nat.le_refl _) _)
  · have hlen := bitsOk_length hb
    by_cases hm : xs.length % 8 = 0
    · have HPk := Lib.hid (show packOk xs = true by simp [packOk, hb, hm])
      have hne : ((xs.length : Int) % 8 != 0) = false := by simp; omega
      have HV := Lib.hid fun j => @bitsF_val xs hb j
      obtain ⟨n, hn⟩ : ∃ n, xs.length = 8 * n := ⟨xs.length / 8, by omega⟩
      have HN := Lib.hid hn
      have hn1 : 8 * n ≤ xs.length := by omega
      have hn2 : xs.length ≤ 8 * n := by omega
      clear hm hn
      go_enter Try.func25, Try.ntmps25
      go_wp2_with (go_at_call 16; ((with_reducible refine (specBitsValid_any a c w.heap.size xs _ (HXa.out _) HL.out).mono ?_); rintro e w' ⟨rfl, rfl⟩))
      clear hne
      go_loopw [4, 5] (fun s i wr => ∃ (k : Nat) (v : Option Addr) (cap : Nat), k ≤ n ∧ i = .int .i64 (8 * k : Nat) ∧ s = .slice v k cap ∧ Grow .u8 5 wr w.heap.size v k cap (byteList (bitsF xs xs.length) k) ∧ Below w.heap.size w wr) (fun _ i _ => 8 * n - (intOf i).toNat)
      case atStart => exact ⟨0, _, _, Nat.zero_le _, rfl, rfl, Grow.lit0 _ _ _ _ (Nat.le_refl _), (Below.refl _ _).alloc (Nat.le_refl _) _⟩
      case round =>
        obtain ⟨k, v, cap, hk, rfl, rfl, hgr, hbel⟩ := hrel
        have HG := Lib.hid hgr
        have HBe := Lib.hid hbel
        clear hgr hbel
        by_cases hlt : k < n
        · go_wp2
          go_loop [6, 7] (fun s i => ∃ m : Nat, m ≤ 8 ∧ i = .int .i64 m ∧ s = .int .i64 (msb (bitsF xs xs.length) (8 * k) m)) (fun _ i => 8 - (intOf i).toNat)
          case atStart => exact ⟨0, by omega, rfl, rfl⟩
          case round =>
            obtain ⟨m, hm, rfl, rfl⟩ := hrel
            have hms : msb (bitsF xs xs.length) (8 * k) m < 2 ^ m := msb_lt _ _ _
            have hpw : 2 ^ m ≤ 2 ^ 8 := Nat.pow_le_pow_right (by omega) hm
            have hms2 : msb (bitsF xs xs.length) (8 * k) m < 256 := by omega
            clear hms hpw
            by_cases hlm : m < 8
            · obtain ⟨b, off, rfl, hb', hc⟩ := (HX.out.below HBe.out).at_ (i := 8 * k + m) (by omega)
              rw [HV.out (8 * k + m) (by omega)] at hc
              have htn := Bool.toNat_le (bitsF xs xs.length (8 * k + m))
              go_wp2
              go_round
              case rel => exact ⟨m + 1, by omega, by go_num, by simp only [msb]; go_num⟩
              case measure => simp [intOf]; omega
            · obtain rfl : 8 = m := by omega
              have hsz : w.heap.size ≤ wr.heap.size := HBe.out.size
              go_wp2_with (at_builtin; refine wpList_appendB (.tmp 38) (.tmp 41) w.heap.size v k cap _ ⟨wr.heap.size, 0, none⟩ (msb (bitsF xs xs.length) (8 * k) 8) rfl rfl rfl rfl (HG.out.alloc _) (by simp) (by omega) (by simp; omega) ?_; intro a2 cap2 w2 hg2 hb2; have HG2 := Lib.hid hg2; have HB2 := Lib.hid hb2; clear hg2 hb2)
              go_roundw
              case rel => exact ⟨k + 1, a2, cap2, by omega, by go_num, rfl, by rw [byteList_succ]; exact HG2.out, (HBe.out.alloc hsz _).trans HB2.out⟩
              case measure => simp [intOf]; omega
        · obtain rfl : n = k := by omega
          go_wp2
          go_ret2
          have hz : yobOr xs = byteList (bitsF xs xs.length) n := by simp [yobOr, HPk.out]; congr 1; omega
          rw [hz, HPk.out]
          exact bytesPost_grow HG.out HBe.out
    · have HPk := Lib.hid (show packOk xs = false by simp [packOk, hm])
      have hne : ((xs.length : Int) % 8 != 0) = true := by simp; omega
      clear hm
      go_enter Try.func25, Try.ntmps25
      go_wp2_with (go_at_call 16; ((with_reducible refine (specBitsValid_any a c w.heap.size xs _ (HXa.out _) HL.out).mono ?_); rintro e w' ⟨rfl, rfl⟩))
      go_ret2
      have hz : yobOr xs = [] := by simp [yobOr, HPk.out]
      rw [hz, HPk.out]
      exact bytesPost_grow (Grow.lit0 _ _ _ _ (Nat.le_refl _)) ((Below.refl _ _).alloc (Nat.le_refl _) _)
end Go.Proofs.Ytnedhpodfjlnmaa
