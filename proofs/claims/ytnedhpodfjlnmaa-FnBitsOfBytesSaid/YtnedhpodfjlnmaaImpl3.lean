/-
  What BitsOfBytes and BytesOfBits answer. Condition: each number of a list of bytes is a byte.
-/
import Derived.Test.YtnedhpodfjlnmaaByte2
namespace Go.Proofs.Ytnedhpodfjlnmaa
open Go.RowKit

set_option maxHeartbeats 1000000 in
theorem bytes_any (cs : Array Value) (P : Nat → Nat) (f : Nat → Bool) (n : Nat) (w : World) (hp : IsPack cs P n) (hf : Packed P f) (hn : n ≤ 1024) :
    Calls Try.prog 49 #[.agg cs] w fun e w' => e = .returned (.slice (some ⟨w.heap.size + 1, 0, none⟩) (n / 8) (n / 8)) ∧
      w'.rowIs (w.heap.size + 1) 5 (n / 8) (fun i => .int .u8 (el (byteList f (n / 8)) i)) ∧ Below w.heap.size w w' := by
  have hmk := run_make_row' (P := Try.prog) 22 5 (.int .u8 0) 1 Try.underlying22 Try.infoByte rfl .i64 .i64 (n / 8) (by omega) (by omega)
  rw [show (((n / 8 : Nat)) : Int) = (n : Int) / 8 by omega] at hmk
  have c16 : (w.alloc (.cells cs 49)).cell? ⟨w.heap.size, 16, none⟩ = some (.int .i64 n) := by
    rw [← hp.2.2]; exact cell_of_row _ _ _ _ _ _ (heap_alloc_last _ _)
  have HP := Lib.hid hp
  have HF := Lib.hid hf
  clear hp hf
  go_enter Try.func49, Try.ntmps49
  go_wp2
  clear hmk c16
  go_loopw [12] (fun i wr => ∃ k : Nat, k ≤ n / 8 ∧ i = .int .i64 k ∧ wr.heap[w.heap.size]? = some (.cells cs 49 (0, 0)) ∧
      wr.rowIs (w.heap.size + 1) 5 (n / 8) (fun j => .int .u8 (if j < k then el (byteList f (n / 8)) j else 0)) ∧ Below w.heap.size w wr) (fun i _ => n / 8 - (intOf i).toNat)
  case atStart =>
    refine ⟨0, Nat.zero_le _, rfl, (Below.heap_alloc _ _ _ (by simp)).trans (heap_alloc_last _ _), ?_, ((Below.refl _ _).alloc (Nat.le_refl _) _).alloc (by simp) _⟩
    have := World.rowIs_made (w.alloc (.cells cs 49)) (.int .u8 0) (n / 8) 5
    rw [World.size_alloc] at this
    exact this.congr (by intro j hj; simp)
  case round =>
    obtain ⟨k, hk, rfl, hblk, hrow, hbel⟩ := hrel
    have HB := Lib.hid hblk
    have HBe := Lib.hid hbel
    clear hblk hbel
    by_cases hlt : k < n / 8
    · have hf := hrow.frozen k
      have hcv : wr.cell? ⟨w.heap.size + 1, k, none⟩ = some (.int .u8 0) := by rw [hrow.cell hlt]; simp
      have hcw : wr.cell? ⟨w.heap.size, k * 8 / 64, none⟩ = some (.int .u64 (P (k * 8 / 64))) := by
        rw [← HP.out.2.1 (k * 8 / 64) (by omega)]; exact cell_of_row _ _ _ _ _ _ HB.out
      have hpb := HF.out.1 (k * 8 / 64) (by omega)
      have HE : Hid ((byteIn (P (k * 8 / 64)) (k * 8 % 64) : Int) = el (byteList f (n / 8)) k) := by
        show ((byteIn (P (k * 8 / 64)) (k * 8 % 64) : Nat) : Int) = _
        rw [byteIn_packed HF.out (by omega), byteList_el _ _ _ hlt]
      have H1 := Lib.hid ((hrow.set k (.int .u8 (byteIn (P (k * 8 / 64)) (k * 8 % 64)))).congr (g := fun j => .int .u8 (if j < k + 1 then el (byteList f (n / 8)) j else 0)) (by
        intro j hj
        by_cases e : j = k
        · subst e; simp [HE.out]
        · simp only [e, if_false]
          by_cases h2 : j < k
          · simp [h2, Nat.lt_succ_of_lt h2]
          · simp [h2, show ¬ j < k + 1 by omega]))
      have H2 := Lib.hid (HBe.out.setCell (p := ⟨w.heap.size + 1, k, none⟩) (by show w.heap.size ≤ w.heap.size + 1; omega) (.int .u8 (byteIn (P (k * 8 / 64)) (k * 8 % 64))))
      have H3 := Lib.hid ((Below.heap_setCell wr ⟨w.heap.size + 1, k, none⟩ (.int .u8 (byteIn (P (k * 8 / 64)) (k * 8 % 64))) w.heap.size (by show w.heap.size ≠ w.heap.size + 1; omega)).trans HB.out)
      clear hrow HE
      go_wp2_with (go_at_call 57; refine (byteAt_any (P (k * 8 / 64)) (k * 8 % 64) _ hpb (by omega)).mono ?_; rintro e w' ⟨rfl, rfl⟩)
      go_roundw
      case rel => exact ⟨k + 1, by omega, by go_num, H3.out, H1.out, H2.out⟩
      case measure => simp [intOf]; omega
    · have H1 := Lib.hid (hrow.congr (g := fun j => .int .u8 (el (byteList f (n / 8)) j)) (by intro j hj; simp [show j < k by omega]))
      clear hrow
      go_wp2
      go_ret
      exact ⟨rfl, H1.out, HBe.out⟩

/-- The bits of bytes, or none for too many bytes. -/
def bobOr (ds : List Int) : List Int := if bytesOk ds then bitList (bytesF ds ds.length) (ds.length * 8) else []
def packOk (xs : List Int) : Bool := bitsOk xs && decide (xs.length % 8 = 0)
def yobOr (xs : List Int) : List Int := if packOk xs then byteList (bitsF xs xs.length) (xs.length / 8) else []
/-- What a call leaves that returns a new list of bytes and whether there is one. -/
def BytesPost (ys : List Int) (ok : Bool) (w : World) (e : Ending) (w' : World) : Prop :=
  ∃ a cap, e = .returned (.tuple #[.slice a ys.length cap, .bool ok]) ∧ OwnInts .u8 5 w' w.heap.size a ys ∧ Below w.heap.size w w'
theorem bytesPost_nil {ok : Bool} {w w' : World} (h : Below w.heap.size w w') : BytesPost [] ok w (.returned (.tuple #[.slice none 0 0, .bool ok])) w' := ⟨none, 0, rfl, fun h => absurd rfl h, h⟩
theorem bytesPost_row {xs : List Int} {ok : Bool} {w w' : World} {b n : Nat} (hr : w'.rowIs b 5 n (fun i => .int .u8 (el xs i))) (hn : n = xs.length) (hb : w.heap.size ≤ b) (h : Below w.heap.size w w') :
    BytesPost xs ok w (.returned (.tuple #[.slice (some ⟨b, 0, none⟩) n n, .bool ok])) w' := by
  subst hn
  exact ⟨_, _, rfl, fun _ => ⟨b, _, rfl, hb, Nat.le_refl _, _, hr, fun _ _ => rfl⟩, h⟩

theorem one_blk {w1 W : World} {z cs : Array Value} {t : TypeId} {fr : Nat × Nat} (h : Hid (W = (w1.alloc (.cells z t fr)).setRow w1.heap.size cs)) : W.heap[w1.heap.size]? = some (.cells cs t fr) := by
  rw [h.out]; exact setRow_heap _ _ _ _ _ _ (heap_alloc_last _ _)
theorem below_one {w w1 W : World} {z cs : Array Value} {t : TypeId} {fr : Nat × Nat} (hb : Below w.heap.size w w1) (h : Hid (W = (w1.alloc (.cells z t fr)).setRow w1.heap.size cs)) : Below w.heap.size w W := by
  rw [h.out]; exact below_setRow (hb.alloc hb.size _) hb.size _
theorem size_one {w1 W : World} {z cs : Array Value} {t : TypeId} {fr : Nat × Nat} (h : Hid (W = (w1.alloc (.cells z t fr)).setRow w1.heap.size cs)) : w1.heap.size < W.heap.size := by
  rw [h.out]; simp

theorem len_cell {W : World} {g n : Nat} {cs : Array Value} {P : Nat → Nat} (hg : W.heap[g]? = some (.cells cs 49 (0, 0))) (hp : IsPack cs P n) : W.cell? ⟨g, 16, none⟩ = some (.int .i64 n) := by
  rw [← hp.2.2]; exact cell_of_row _ _ _ _ _ _ hg
set_option maxHeartbeats 1000000 in
theorem bitsOfBytes_any (a : Option Addr) (c B : Nat) (ds : List Int) (w : World) (hx : Ints .u8 w B a ds) (hB : B ≤ w.heap.size) (hw : ∀ n ∈ ds, isByte n) :
    Calls Try.prog 20 #[.slice a ds.length c] w (ListPost (bobOr ds) w) := by
  go_enter Try.func20, Try.ntmps20
  go_wp2_with fail
  refine (packBytes_any a c B ds w hx hB hw).mono ?_
  rintro e w1 ⟨cs, P, rfl, hok, s1, o1, hbel⟩
  have S1 := Lib.hid s1
  have O1 := Lib.hid o1
  have HB := Lib.hid hbel
  have HOk := Lib.hid hok
  have hsz : w.heap.size ≤ w1.heap.size := hbel.size
  clear hx hw s1 o1 hbel hok
  cases hpk : bytesOk ds
  · have HPk := Lib.hid hpk
    clear HOk
    go_wp2_with (refine store_abs (.tmp 3) (.tmp 8) w1.heap.size cs _ (heap_alloc_last _ _) S1.out rfl O1.out rfl rfl rfl rfl ?_; intro W0 HW0)
    go_ret
    have hz : bobOr ds = [] := by simp [bobOr, HPk.out]
    rw [hz]
    exact listPost_nil (below_one HB.out HW0)
  · obtain ⟨p1, p2⟩ := HOk.out hpk
    have HPk := Lib.hid hpk
    have P1 := Lib.hid p1
    have P2 := Lib.hid p2
    have hlen : ds.length ≤ 128 := by simpa [bytesOk] using hpk
    clear HOk p1 p2
    go_wp2_with (first | (refine store_abs (.tmp 3) (.tmp 8) w1.heap.size cs _ (heap_alloc_last _ _) S1.out rfl O1.out rfl rfl rfl rfl ?_; intro W0 HW0) | (refine load_pack (.tmp 3) w1.heap.size cs (one_blk HW0) S1.out rfl rfl rfl ?_))
    refine (list_any cs P _ (ds.length * 8) W0 P1.out P2.out (by omega)).mono ?_
    rintro e w3 ⟨rfl, hr3, hb3⟩
    have HR3 := Lib.hid hr3
    have hs0 := size_one HW0
    have HB3 := Lib.hid (Below.next (below_one HB.out HW0) (Nat.le_refl _) hb3)
    clear hr3 hb3
    go_wp2
    go_ret
    have hz : bobOr ds = bitList (bytesF ds ds.length) (ds.length * 8) := by simp [bobOr, HPk.out]
    rw [hz]
    exact listPost_row (xs := bitList (bytesF ds ds.length) (ds.length * 8)) HR3.out (bitList_length _ _).symm (by omega) HB3.out

set_option maxHeartbeats 1000000 in
theorem bytesOfBits_any (a : Option Addr) (c B : Nat) (xs : List Int) (w : World) (hx : Ints .i64 w B a xs) (hB : B ≤ w.heap.size) :
    Calls Try.prog 23 #[.slice a xs.length c] w (BytesPost (yobOr xs) (packOk xs) w) := by
  go_enter Try.func23, Try.ntmps23
  go_wp2_with fail
  refine (packBits_any a c B xs w hx hB).mono ?_
  rintro e w1 ⟨cs, P, rfl, hok, s1, o1, hbel⟩
  have S1 := Lib.hid s1
  have O1 := Lib.hid o1
  have HB := Lib.hid hbel
  have HOk := Lib.hid hok
  have hsz : w.heap.size ≤ w1.heap.size := hbel.size
  clear hx s1 o1 hbel hok
  cases hb : bitsOk xs
  · have HPk := Lib.hid (show packOk xs = false by simp [packOk, hb])
    clear HOk
    go_wp2_with (refine store_abs (.tmp 4) (.tmp 9) w1.heap.size cs _ (heap_alloc_last _ _) S1.out rfl O1.out rfl rfl rfl rfl ?_; intro W0 HW0)
    go_ret2
    have hz : yobOr xs = [] := by simp [yobOr, HPk.out]
    rw [hz, HPk.out]
    exact bytesPost_nil (below_one HB.out HW0)
  · obtain ⟨p1, p2⟩ := HOk.out hb
    have P1 := Lib.hid p1
    have P2 := Lib.hid p2
    have hlen : xs.length ≤ 1024 := bitsOk_length hb
    clear HOk p1 p2
    by_cases hm : xs.length % 8 = 0
    · have HPk := Lib.hid (show packOk xs = true by simp [packOk, hb, hm])
      have hne : ((xs.length : Int) % 8 != 0) = false := by simp; omega
      clear hm
      go_wp2_with (first | (refine store_abs (.tmp 4) (.tmp 9) w1.heap.size cs _ (heap_alloc_last _ _) S1.out rfl O1.out rfl rfl rfl rfl ?_; intro W0 HW0; have c16 := len_cell (one_blk HW0) P1.out) | (refine load_pack (.tmp 4) w1.heap.size cs (one_blk HW0) S1.out rfl rfl rfl ?_))
      refine (bytes_any cs P _ xs.length W0 P1.out P2.out hlen).mono ?_
      rintro e w3 ⟨rfl, hr3, hb3⟩
      have HR3 := Lib.hid hr3
      have hs0 := size_one HW0
      have HB3 := Lib.hid (Below.next (below_one HB.out HW0) (Nat.le_refl _) hb3)
      clear hr3 hb3
      go_wp2
      go_ret2
      have hz : yobOr xs = byteList (bitsF xs xs.length) (xs.length / 8) := by simp [yobOr, HPk.out]
      rw [hz, HPk.out]
      exact bytesPost_row (xs := byteList (bitsF xs xs.length) (xs.length / 8)) HR3.out (byteList_length _ _).symm (by omega) HB3.out
    · have HPk := Lib.hid (show packOk xs = false by simp [packOk, hm])
      have hne : ((xs.length : Int) % 8 != 0) = true := by simp; omega
      clear hm
      go_wp2_with (refine store_abs (.tmp 4) (.tmp 9) w1.heap.size cs _ (heap_alloc_last _ _) S1.out rfl O1.out rfl rfl rfl rfl ?_; intro W0 HW0; have c16 := len_cell (one_blk HW0) P1.out)
      go_ret2
      have hz : yobOr xs = [] := by simp [yobOr, HPk.out]
      rw [hz, HPk.out]
      exact bytesPost_nil (below_one HB.out HW0)
end Go.Proofs.Ytnedhpodfjlnmaa
