/-
  The laws of the exactness of LinksValid and LinksMeet, walked: they return true for all arguments, and write into nothing that was there. No condition.
-/
import Derived.Test.YtlgcacoggikfcaaPw10
import Derived.Test.YtlgcacoggikfcaaPw8
import Derived.Test.YtlgcacoggikfcaaOne
namespace Go.Proofs.Ytlgcacoggikfcaa
open Go.RowKit

/-- What an exact law keeps: its argument's box, its variable, and the rows that this one leads to. -/
structure XE (w W : World) (a : Option Addr) (c : Nat) (R : List (List Int)) (N T : Int) (v b0 : Nat) (blk : Nat → Nat) : Prop where
  box : LBox w W w.heap.size a R.length c N T
  var : LkVar W v (.slice (some ⟨b0, 0, none⟩) R.length R.length) (.int .i64 N) (.int .i64 T)
  cp : CpR W b0 R R.length blk
  lt : w.heap.size < v
section
variable {w W W' : World} {a : Option Addr} {c : Nat} {R : List (List Int)} {N T : Int} {v b0 : Nat} {blk : Nat → Nat}
theorem XE.next (h : XE w W a c R N T v b0 blk) (hb : Below W.heap.size W W') : XE w W' a c R N T v b0 blk := ⟨h.box.next hb, h.var.next hb, h.cp.next hb, h.lt⟩
theorem XE.drewN (h : XE w W a c R N T v b0 blk) (n : Nat) : XE w (W.drewN n) a c R N T v b0 blk := h.next (below_drewN (Below.refl _ _) n)
theorem XE.new (hB : LBox w W w.heap.size a R.length c N T) (hC : CpR W b0 R R.length blk) : XE w (W.alloc (.cells #[.slice (some ⟨b0, 0, none⟩) R.length R.length, .int .i64 N, .int .i64 T] 25)) a c R N T W.heap.size b0 blk :=
  ⟨hB.next (alloc_belowX _ _), lkVar_new _ _ _ _, hC.next (alloc_belowX _ _), hB.lt⟩
theorem LBox.rows (h : LBox w W w.heap.size a R.length c N T) (hr : RowsL w w.heap.size a R) : RowsL W W.heap.size a R := (hr.below h.b).more h.b.size
/-- A list that lies below block B0. -/
structure LI (W : World) (B0 : Nat) (x : Option Addr) (xs : List Int) : Prop where
  i : Ints .i64 W B0 x xs
  s : B0 ≤ W.heap.size
theorem LI.next {B0 : Nat} {x : Option Addr} {xs : List Int} (h : LI W B0 x xs) (hb : Below W.heap.size W W') : LI W' B0 x xs := ⟨h.i.below (hb.mono h.s), Nat.le_trans h.s hb.size⟩
theorem LI.drewN {B0 : Nat} {x : Option Addr} {xs : List Int} (h : LI W B0 x xs) (n : Nat) : LI (W.drewN n) B0 x xs := h.next (below_drewN (Below.refl _ _) n)
theorem LI.kept {B0 D E : Nat} {x : Option Addr} {xs : List Int} (h : LI W B0 x xs) (hk : KeptOut D E W W') (hd : B0 ≤ D) : LI W' B0 x xs := ⟨h.i.out hk hd h.s, Nat.le_trans h.s hk.size⟩
theorem LBox.kept {D E : Nat} (h : LBox w W w.heap.size a R.length c N T) (hk : KeptOut D E W W') (hd : w.heap.size < D) : LBox w W' w.heap.size a R.length c N T :=
  h.keep (hk.block _ h.lt (.inl hd)) hk.size ⟨hk.os.trans h.b.os, hk.tape.trans h.b.tape, hk.output.trans h.b.output, Nat.le_trans h.b.size hk.size, fun j hj => (hk.block j (Nat.lt_of_lt_of_le (Nat.lt_of_lt_of_le hj (Nat.le_refl _)) h.b.size) (.inl (Nat.lt_trans hj hd))).trans (h.b.block j hj)⟩
theorem XE.rows (h : XE w W a c R N T v b0 blk) (hz : SzOk R) : RowsL W W.heap.size (some ⟨b0, 0, none⟩) R := h.cp.rows fun _ hi => hz.row hi
end
set_option maxHeartbeats 2000000 in
theorem walkExactLinksValid (a : Option Addr) (c : Nat) (R : List (List Int)) (N T : Int) (w : World) (hr : RowsL w w.heap.size a R) (hlc : R.length ≤ c) (hcm : c ≤ maxLen) :
    Calls Try.prog 8 #[.agg #[.slice a R.length c, .int .i64 N, .int .i64 T]] w fun e w' => e = .returned (.bool true) ∧ Below w.heap.size w w' := by
  have HR := Lib.hid hr
  have HB0 := Lib.hid (lbox_new w a R.length c N T 38)
  have HS := Lib.hid (szLinks_any a c R N T _ (HB0.out.rows hr) (Nat.le_trans hlc hcm))
  have hbg := HB0.out.g
  have hbn := HB0.out.n
  have hbt := HB0.out.t
  clear hr
  go_enter Try.func8, Try.ntmps8
  go_wp2_with fail
  refine HS.out.mono ?_
  rintro e w1 ⟨n, rfl, hn, hg⟩
  have B1 := Lib.hid (HB0.out.next hg)
  clear hg HS hbg hbn hbt
  by_cases hn0 : n < 0
  · go_wp2
    go_ret
    exact ⟨rfl, B1.out.b⟩
  · have HZ := Lib.hid (hn.resolve_left hn0).2
    clear hn HB0
    obtain ⟨S, hS⟩ : ∃ S, decide (LkOk R N T) = S := ⟨_, rfl⟩
    have HD := Lib.hid hS
    have z : (S != S) = false := by simp
    clear hS
    have hbg := B1.out.g
    have hbn := B1.out.n
    have hbt := B1.out.t
    go_wp2_with fail
    refine (toLinks_any a c R N T w1 (B1.out.rows HR.out) HZ.out).mono ?_
    rintro e w2 ⟨b_w2, rfl, l_w2, ⟨blk_w2, hc_w2⟩, hg⟩
    have C_w2 := Lib.hid hc_w2
    have B2 := Lib.hid (B1.out.next hg)
    clear hbg hbn hbt
    clear hc_w2
    go_wp2_with fail
    refine (specLinksValid_is (some ⟨b_w2, 0, none⟩) R.length R N T S w2 (C_w2.out.rows fun _ hi => HZ.out.row hi) HD.out).mono ?_
    rintro e w3 ⟨rfl, hg⟩
    have B3 := Lib.hid (B2.out.next hg)
    clear hg C_w2 B2 B1
    have hbg := B3.out.g
    have hbn := B3.out.n
    have hbt := B3.out.t
    go_wp2_with fail
    refine (toLinks_any a c R N T w3 (B3.out.rows HR.out) HZ.out).mono ?_
    rintro e w4 ⟨b_w4, rfl, l_w4, ⟨blk_w4, hc_w4⟩, hg⟩
    have C_w4 := Lib.hid hc_w4
    have B4 := Lib.hid (B3.out.next hg)
    clear hbg hbn hbt
    clear hc_w4
    have E0 := Lib.hid (XE.new B4.out C_w4.out)
    have HI := Lib.hid (linksValid_is (some ⟨b_w4, 0, none⟩) R.length R N T S _ (E0.out.rows HZ.out) HD.out)
    go_wp2_with fail
    refine HI.out.mono ?_
    rintro e w5 ⟨rfl, hg⟩
    have E5 := Lib.hid (E0.out.next hg)
    clear hg E0 HI B4 B3 C_w4
    have v1 := E5.out.var.g
    have v2 := E5.out.var.n
    have v3 := E5.out.var.t
    have hbg := E5.out.box.g
    have hbn := E5.out.box.n
    have hbt := E5.out.box.t
    go_wp2
    go_region_law (first
      | (go_simp; go_at_call 28; refine (eqLinks_same _ _ _ _ R N T _ (EE.out.rows HZ.out) CC.out HZ.out).mono ?_; rintro e wq ⟨rfl, hq⟩; have EQ := Lib.hid (EE.out.next hq); have BQ := Lib.hid (Below.next BT.out (Nat.le_refl _) hq); have k1 := EQ.out.var.g; have k2 := EQ.out.var.n; have k3 := EQ.out.var.t; clear hq)
      | (go_simp; go_at_call 27; refine (toLinks_any a c R N T _ ((E5.out.drewN 1).box.rows HR.out) HZ.out).mono ?_; rintro e wt ⟨bt, rfl, _, ⟨blkt, hct⟩, ht⟩; have EE := Lib.hid ((E5.out.drewN 1).next ht); have BT := Lib.hid (Below.next (below_drewN (Below.refl w5.heap.size w5) 1) (Nat.le_refl _) ht); have CC := Lib.hid (CpR.rows hct fun _ hi => HZ.out.row hi); have k1 := EE.out.var.g; have k2 := EE.out.var.n; have k3 := EE.out.var.t; have k4 := EE.out.box.g; have k5 := EE.out.box.n; have k6 := EE.out.box.t; clear hct ht)
      | fail)
    all_goals
      go_wp2
      go_ret
      exact ⟨rfl, EQ.out.box.b⟩
set_option maxHeartbeats 4000000 in
theorem walkExactLinksMeet (a : Option Addr) (c : Nat) (R : List (List Int)) (N T : Int) (v : Option Addr) (c' : Nat) (P : List Int) (w : World) (hr : RowsL w w.heap.size a R) (hlc : R.length ≤ c) (hcm : c ≤ maxLen) (hv : Ints .i64 w w.heap.size v P) (_hw : ∀ n ∈ P, (Lit.int .i64 n).wf = true) :
    Calls Try.prog 9 #[.agg #[.slice a R.length c, .int .i64 N, .int .i64 T], .slice v P.length c'] w fun e w' => e = .returned (.bool true) ∧ Below w.heap.size w w' := by
  have HR := Lib.hid hr
  have HB0 := Lib.hid (lbox_new w a R.length c N T 38)
  have HS := Lib.hid (szLinks_any a c R N T _ (HB0.out.rows hr) (Nat.le_trans hlc hcm))
  have hbg := HB0.out.g
  have hbn := HB0.out.n
  have hbt := HB0.out.t
  clear hr
  have HV := Lib.hid hv
  clear hv
  by_cases hp : P.length ≤ 1048576
  rotate_left
  · go_enter Try.func9, Try.ntmps9
    go_wp2
    go_ret
    exact ⟨rfl, HB0.out.b⟩
  have zp : decide (P = P) = true := by simp
  go_enter Try.func9, Try.ntmps9
  go_wp2_with fail
  refine HS.out.mono ?_
  rintro e w1 ⟨n, rfl, hn, hg⟩
  have B1 := Lib.hid (HB0.out.next hg)
  clear hg HS hbg hbn hbt
  by_cases hn0 : n < 0
  · go_wp2
    go_ret
    exact ⟨rfl, B1.out.b⟩
  · have HZ := Lib.hid (hn.resolve_left hn0).2
    clear hn HB0
    obtain ⟨S, hS⟩ : ∃ S, decide (MtOk R N T P) = S := ⟨_, rfl⟩
    have HD := Lib.hid hS
    have z : (S != S) = false := by simp
    clear hS
    have hbg := B1.out.g
    have hbn := B1.out.n
    have hbt := B1.out.t
    go_wp2_with fail
    refine (toLinks_any a c R N T w1 (B1.out.rows HR.out) HZ.out).mono ?_
    rintro e w2 ⟨b_w2, rfl, l_w2, ⟨blk_w2, hc_w2⟩, hg⟩
    have C_w2 := Lib.hid hc_w2
    have B2 := Lib.hid (B1.out.next hg)
    clear hbg hbn hbt
    clear hc_w2
    go_wp2_with fail
    refine (toIntS_ints v c' P w2 ((HV.out.below B2.out.b).more B2.out.b.size) hp).mono ?_
    rintro e w3 ⟨rfl, p_w3, hg⟩
    have P3 := Lib.hid p_w3
    have B3 := Lib.hid (B2.out.next hg)
    clear p_w3
    have C3 := Lib.hid (C_w2.out.next hg)
    have HL := specLinksMeet_any (some ⟨b_w2, 0, none⟩) (some ⟨w2.heap.size, 0, none⟩) R.length P.length R N T P w3 (C3.out.rows fun _ hi => HZ.out.row hi) P3.out
    rw [HD.out] at HL
    have HL := Lib.hid HL
    clear hg
    go_wp2_with fail
    refine HL.out.mono ?_
    rintro e w4 ⟨rfl, hg⟩
    have B4 := Lib.hid (B3.out.next hg)
    clear hg C_w2 C3 P3 B3 B2 B1 HL
    have hbg := B4.out.g
    have hbn := B4.out.n
    have hbt := B4.out.t
    go_wp2_with fail
    refine (toLinks_any a c R N T w4 (B4.out.rows HR.out) HZ.out).mono ?_
    rintro e w5 ⟨b_w5, rfl, l_w5, ⟨blk_w5, hc_w5⟩, hg⟩
    have C_w5 := Lib.hid hc_w5
    have B5 := Lib.hid (B4.out.next hg)
    clear hbg hbn hbt
    clear hc_w5
    have E0 := Lib.hid (XE.new B5.out C_w5.out)
    obtain ⟨wa, hwa⟩ : ∃ wa, wa = w5.alloc (.cells #[.slice (some ⟨b_w5, 0, none⟩) R.length R.length, .int .i64 N, .int .i64 T] 25) := ⟨_, rfl⟩
    rw [← hwa] at E0
    go_wp2_with fail
    rw [← hwa]
    refine (toIntS_own v c' P wa ((HV.out.below E0.out.box.b).more E0.out.box.b.size) hp).mono ?_
    rintro e w6 ⟨x1, rfl, p6, hg⟩
    have X6 := Lib.hid p6.ints
    have E6 := Lib.hid (E0.out.next hg)
    clear p6 hg E0 B5 B4 C_w5
    have HI := linksMeet_any (some ⟨b_w5, 0, none⟩) _ R.length P.length R N T P w6 (E6.out.rows HZ.out) X6.out
    rw [HD.out] at HI
    have HI := Lib.hid HI
    have v1 := E6.out.var.g
    have v2 := E6.out.var.n
    have v3 := E6.out.var.t
    go_wp2_with fail
    refine HI.out.mono ?_
    rintro e w7 ⟨rfl, hg⟩
    have E7 := Lib.hid (E6.out.next hg)
    have X7 := Lib.hid (X6.out.next hg)
    clear hg E6 X6 HI v1 v2 v3
    have v1 := E7.out.var.g
    have v2 := E7.out.var.n
    have v3 := E7.out.var.t
    have hbg := E7.out.box.g
    have hbn := E7.out.box.n
    have hbt := E7.out.box.t
    go_wp2
    go_region_law (first
      | (go_simp; go_at_call 28; refine (eqLinks_same _ _ _ _ R N T _ (EE.out.rows HZ.out) CC.out HZ.out).mono ?_; rintro e wq ⟨rfl, hq⟩; have EQ := Lib.hid (EE.out.next hq); have BQ := Lib.hid (Below.next BT.out (Nat.le_refl _) hq); have k1 := EQ.out.var.g; have k2 := EQ.out.var.n; have k3 := EQ.out.var.t; clear hq)
      | (go_simp; go_at_call 27; refine (toLinks_any a c R N T _ ((E7.out.drewN 1).box.rows HR.out) HZ.out).mono ?_; rintro e wt ⟨bt, rfl, _, ⟨blkt, hct⟩, ht⟩; have EE := Lib.hid ((E7.out.drewN 1).next ht); have BT := Lib.hid (Below.next (below_drewN (Below.refl w7.heap.size w7) 1) (Nat.le_refl _) ht); have CC := Lib.hid (CpR.rows hct fun _ hi => HZ.out.row hi); have k1 := EE.out.var.g; have k2 := EE.out.var.n; have k3 := EE.out.var.t; have k4 := EE.out.box.g; have k5 := EE.out.box.n; have k6 := EE.out.box.t; clear hct ht)
      | fail)
    all_goals
      have X9 := Lib.hid (X7.out.next BQ.out)
      go_wp2_with fail
      refine (toIntS_ints v c' P wq ((HV.out.below EQ.out.box.b).more EQ.out.box.b.size) hp).mono ?_
      rintro e w10 ⟨rfl, p10, hg⟩
      have P10 := Lib.hid p10
      have X10 := Lib.hid (X9.out.next hg)
      have E10 := Lib.hid (EQ.out.next hg)
      clear p10 hg
      go_wp2_with fail
      refine (eqIntS_any _ _ _ _ w10.heap.size w10.heap.size P P w10 X10.out P10.out hp).mono ?_
      rintro e w11 ⟨rfl, n11, rfl⟩
      go_wp2
      go_ret
      exact ⟨rfl, below_drewN E10.out.box.b n11⟩
end Go.Proofs.Ytlgcacoggikfcaa
