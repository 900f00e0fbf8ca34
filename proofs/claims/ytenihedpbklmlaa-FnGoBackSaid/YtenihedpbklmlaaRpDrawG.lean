/-
  l20Go, walked: its last statement in each of the 44 orders. No condition.
-/
import Derived.Test.YtenihedpbklmlaaRpDraw
namespace Go.Proofs.Ytenihedpbklmlaa
open Go.RowKit

set_option maxRecDepth 100000 in
set_option maxHeartbeats 16000000 in
theorem l20Go_any (R p0 : Nat) (w : World) (hr : Rd w R p0) (hp0 : p0 ≤ 1000000) :
    Calls Try.prog 52 #[.pointer (some ⟨R, 0, none⟩)] w (GoPost R w) := by
  have R0 := Lib.hid hr
  clear hr
  go_enter Try.func52, Try.ntmps52
  go_wp2_with fail
  refine (pick_any R p0 14 w R0.out (by omega) (by omega) (by omega)).mono ?_
  rintro e w1 ⟨a1, ha1, rfl, r1, g1⟩
  have R1 := Lib.hid r1
  have G1 := Lib.hid g1
  clear r1 g1 R0
  go_wp2_with fail
  refine (pick_any R (p0 + 1) 14 w1 R1.out (by omega) (by omega) (by omega)).mono ?_
  rintro e w2 ⟨a2, ha2, rfl, r2, g2⟩
  have R2 := Lib.hid r2
  have G2 := Lib.hid (grown_trans G1.out g2)
  clear r2 g2 R1 G1
  obtain ⟨q2, e2, hq2, i2, j2⟩ := thirteen ha2
  have i3 := wrapW (n := q2 * 30) (by omega)
  have j3 := wrapW' (n := q2 * 30) (by omega)
  have i4 := wrapW (n := a1 + q2 * 30) (by omega)
  have j4 := wrapW' (n := a1 + q2 * 30) (by omega)
  go_wp2_with fail
  refine (pick_any R (p0 + 1 + 1) 14 w2 R2.out (by omega) (by omega) (by omega)).mono ?_
  rintro e w3 ⟨a3, ha3, rfl, r3, g3⟩
  have RD0' := Lib.hid r3
  have GR0' := Lib.hid (grown_trans G2.out g3)
  clear r3 g3 R2 G2
  obtain ⟨q3, e3, hq3, i5, j5⟩ := thirteen ha3
  obtain ⟨n, hn⟩ : ∃ n, n = a1 + q2 * 30 - q3 := ⟨_, rfl⟩
  have i6 := wrapW (n := a1 + q2 * 30 - q3) (by omega)
  have j6 := wrapW' (n := a1 + q2 * 30 - q3) (by omega)
  have hp : p0 + 1 + 1 + 1 ≤ 1000003 := by omega
  go_wp2_with fail
  clear i2 j2 i3 j3 i4 j4 i5 j5 i6 j6 e2 e3 hq2 hq3 ha1 ha2 ha3
  rw [← hn]
  clear hn
  generalize p0 + 1 + 1 + 1 = p at RD0' hp
  refine wp_region_any (by kernel_rfl) ?_
  change wpAny _ _ _ _ _ _ _ (World.drew _)
  have RD0 : Hid (Rd w3.drew R p) := RD0'
  have GR0 : Hid (w.grownBy w3.drew (some R)) := Lib.hid ⟨GR0'.out.os, GR0'.out.tape, GR0'.out.output, GR0'.out.size, GR0'.out.block⟩
  clear RD0' GR0'
  generalize w3.drew = u0 at RD0 GR0 ⊢
  refine wpAny_take (i := 0) (v := ?v1) rfl (by kernel_rfl) (by kernel_rfl) (by kernel_rfl) (fun _ _ _ h => h) (Or.inl ⟨by kernel_rfl, ?h1⟩) ?_
  case h1 => intro w; go_simp; try with_reducible rfl
  go_simp
  refine wpAny_take (i := 1) (v := ?v2) rfl (by kernel_rfl) (by kernel_rfl) (by kernel_rfl) (fun _ _ _ h => h) (Or.inl ⟨by kernel_rfl, ?h2⟩) ?_
  case h2 => intro w; go_simp; try with_reducible rfl
  go_simp
  refine wpAny_take (i := 6) (v := ?v3) rfl (by kernel_rfl) (by kernel_rfl) (by kernel_rfl) (fun _ _ _ h => h) (Or.inl ⟨by kernel_rfl, ?h3⟩) ?_
  case h3 => intro w; go_simp; try with_reducible rfl
  go_simp
  refine wpAny_take (i := 12) (v := ?v4) rfl (by kernel_rfl) (by kernel_rfl) (by kernel_rfl) (fun _ _ _ h => h) (Or.inl ⟨by kernel_rfl, ?h4⟩) ?_
  case h4 => intro w; go_simp; try with_reducible rfl
  go_simp
  refine wpAny_ready (rs := [2, 5]) (by kernel_rfl) (by simp) (AllReady.cons rfl (fun K hK => ?_) (AllReady.cons rfl (fun K hK => ?_) AllReady.nil))
  · skip
    go_simp
    refine (pick_any R (p) 8 u0 RD0.out (by omega) (by omega) (by omega)).mono ?_
    rintro e u5 ⟨v1, ⟨hx5, hy5⟩, rfl, r5, g5⟩
    have RD5 := Lib.hid r5
    have GR5 := Lib.hid (grown_trans GR0.out g5)
    clear r5 g5
    have q1 : IntKind.i64.wrap (1 + v1) = 1 + v1 := by rw [IntKind.wrap_i64]; omega
    have q1' : wrap64 (1 + v1) = 1 + v1 := by unfold wrap64; omega
    go_simp
    refine hK _ _ ?_
    clear hK K
    refine wpAny_take (i := 3) (v := ?v6) rfl (by kernel_rfl) (by kernel_rfl) (by kernel_rfl) (fun _ _ _ h => h) (Or.inl ⟨by kernel_rfl, ?h6⟩) ?_
    case h6 => intro w; go_simp; try with_reducible rfl
    go_simp
    refine wpAny_ready (rs := [4, 5, 7]) (by kernel_rfl) (by simp) (AllReady.cons rfl (fun K hK => ?_) (AllReady.cons rfl (fun K hK => ?_) (AllReady.cons rfl (fun K hK => ?_) AllReady.nil)))
    · skip
      go_simp
      refine hK _ _ ?_
      clear hK K
      have RD7 := Lib.hid (RD5.out.alloc (.cells #[.int .i64 (1 + v1), .int .i64 0, .int .i64 9] 3))
      have GR7 := Lib.hid (grown_alloc GR5.out (.cells #[.int .i64 (1 + v1), .int .i64 0, .int .i64 9] 3))
      have C37 := Lib.hid (lit3_new (R := R) (W := u5) (v := 1 + v1) RD5.out.lt)
      generalize u5.alloc (.cells #[.int .i64 (1 + v1), .int .i64 0, .int .i64 9] 3) = u7 at RD7 GR7 C37 ⊢
      refine wpAny_ready (rs := [5, 7]) (by kernel_rfl) (by simp) (AllReady.cons rfl (fun K hK => ?_) (AllReady.cons rfl (fun K hK => ?_) AllReady.nil))
      · skip
        go_simp
        refine hK _ _ ?_
        clear hK K
        have RD8 := Lib.hid (RD7.out.alloc (.cells #[.int .i64 0, .int .i64 0, .int .i64 0, .int .i64 0, .int .i64 0, .int .i64 1, .int .i64 2] 3))
        have GR8 := Lib.hid (grown_alloc GR7.out (.cells #[.int .i64 0, .int .i64 0, .int .i64 0, .int .i64 0, .int .i64 0, .int .i64 1, .int .i64 2] 3))
        have C38 := Lib.hid (C37.out.alloc (.cells #[.int .i64 0, .int .i64 0, .int .i64 0, .int .i64 0, .int .i64 0, .int .i64 1, .int .i64 2] 3))
        have C78 := Lib.hid (lit7_new (R := R) (W := u7) RD7.out.lt)
        generalize u7.alloc (.cells #[.int .i64 0, .int .i64 0, .int .i64 0, .int .i64 0, .int .i64 0, .int .i64 1, .int .i64 2] 3) = u8 at RD8 GR8 C38 C78 ⊢
        refine wpAny_ready (rs := [7]) (by kernel_rfl) (by simp) (AllReady.cons rfl (fun K hK => ?_) AllReady.nil)
        go_simp
        refine (pick_any R (p + 1) 7 u8 RD8.out (by omega) (by omega) (by omega)).mono ?_
        rintro e u9 ⟨x9, ⟨hx9, hy9⟩, rfl, r9, g9⟩
        have RD9 := Lib.hid r9
        have GR9 := Lib.hid (grown_trans GR8.out g9)
        have C79 := Lib.hid (C78.out.grown g9)
        have C39 := Lib.hid (C38.out.grown g9)
        clear r9 g9
        go_simp
        refine hK _ _ ?_
        clear hK K
        obtain ⟨k6, rfl⟩ := Int.eq_ofNat_of_zero_le hx9
        have hk6 : k6 < 7 := by omega
        have hk6' : (k6 : Int) < 7 := by omega
        clear hx9 hy9
        refine wpAny_take (i := 8) (v := ?v10) rfl (by kernel_rfl) (by kernel_rfl) (by kernel_rfl) (fun _ _ _ h => h) (Or.inl ⟨by kernel_rfl, ?h10⟩) ?_
        case h10 => intro w; go_simp; try with_reducible rfl
        go_simp
        refine wpAny_ready (rs := [9, 13]) (by kernel_rfl) (by simp) (AllReady.cons rfl (fun K hK => ?_) (AllReady.cons rfl (fun K hK => ?_) AllReady.nil))
        · skip
          go_simp
          obtain ⟨i6, hi6, hc6⟩ := C79.out.get hk6
          have hi6' : (i6 : Int) < 3 := by omega
          go_simp
          refine hK _ _ ?_
          clear hK K hc6
          refine wpAny_take (i := 10) (v := ?v12) rfl (by kernel_rfl) (by kernel_rfl) (by kernel_rfl) (fun _ _ _ h => h) (Or.inl ⟨by kernel_rfl, ?h12⟩) ?_
          case h12 => intro w; go_simp; try with_reducible rfl
          go_simp
          refine wpAny_ready (rs := [11, 13]) (by kernel_rfl) (by simp) (AllReady.cons rfl (fun K hK => ?_) (AllReady.cons rfl (fun K hK => ?_) AllReady.nil))
          · skip
            go_simp
            obtain ⟨y, hy⟩ := C39.out.get hi6
            go_simp
            refine hK _ _ ?_
            clear hK K hy
            refine wpAny_ready (rs := [13]) (by kernel_rfl) (by simp) (AllReady.cons rfl (fun K hK => ?_) AllReady.nil)
            go_simp
            refine (l20Lost_any R (p + 2) u9 RD9.out (by omega)).mono ?_
            rintro e u14 ⟨ls, al, cl, p9, rfl, hll, bl14, r14, _, g14⟩
            have RD14 := Lib.hid r14
            have GR14 := Lib.hid (grown_trans GR9.out g14)
            have LO14 := Lib.hid bl14
            have HLL := Lib.hid hll
            have C714 := Lib.hid (C79.out.grown g14)
            have C314 := Lib.hid (C39.out.grown g14)
            clear r14 g14 bl14 hll
            go_simp
            refine hK _ _ ?_
            clear hK K
            refine wpAny_take (i := 14) (v := ?v15) rfl (by kernel_rfl) (by kernel_rfl) (by kernel_rfl) (fun _ _ _ h => h) (Or.inl ⟨by kernel_rfl, ?h15⟩) ?_
            case h15 => intro w; go_simp; try with_reducible rfl
            go_simp
            refine wpAny_take (i := 15) (v := ?v16) rfl (by kernel_rfl) (by kernel_rfl) (by kernel_rfl) (fun _ _ _ h => h) (Or.inl ⟨by kernel_rfl, ?h16⟩) ?_
            case h16 => intro w; go_simp; try with_reducible rfl
            go_simp
            refine wpAny_take (i := 16) (v := ?v17) rfl (by kernel_rfl) (by kernel_rfl) (by kernel_rfl) (fun _ _ _ h => h) (Or.inl ⟨by kernel_rfl, ?h17⟩) ?_
            case h17 => intro w; go_simp; try with_reducible rfl
            go_simp
            refine wpAny_done (by kernel_rfl) ?_ _
            go_wp2
            go_ret3
            exact ⟨n, y, ls, al, cl, rfl, HLL.out, LO14.out, GR14.out⟩
          · skip
            go_simp
            refine (l20Lost_any R (p + 2) u9 RD9.out (by omega)).mono ?_
            rintro e u18 ⟨ls, al, cl, p9, rfl, hll, bl18, r18, _, g18⟩
            have RD18 := Lib.hid r18
            have GR18 := Lib.hid (grown_trans GR9.out g18)
            have LO18 := Lib.hid bl18
            have HLL := Lib.hid hll
            have C718 := Lib.hid (C79.out.grown g18)
            have C318 := Lib.hid (C39.out.grown g18)
            clear r18 g18 bl18 hll
            go_simp
            refine hK _ _ ?_
            clear hK K
            refine wpAny_take (i := 14) (v := ?v19) rfl (by kernel_rfl) (by kernel_rfl) (by kernel_rfl) (fun _ _ _ h => h) (Or.inl ⟨by kernel_rfl, ?h19⟩) ?_
            case h19 => intro w; go_simp; try with_reducible rfl
            go_simp
            refine wpAny_ready (rs := [11]) (by kernel_rfl) (by simp) (AllReady.cons rfl (fun K hK => ?_) AllReady.nil)
            go_simp
            obtain ⟨y, hy⟩ := C318.out.get hi6
            go_simp
            refine hK _ _ ?_
            clear hK K hy
            refine wpAny_take (i := 15) (v := ?v21) rfl (by kernel_rfl) (by kernel_rfl) (by kernel_rfl) (fun _ _ _ h => h) (Or.inl ⟨by kernel_rfl, ?h21⟩) ?_
            case h21 => intro w; go_simp; try with_reducible rfl
            go_simp
            refine wpAny_take (i := 16) (v := ?v22) rfl (by kernel_rfl) (by kernel_rfl) (by kernel_rfl) (fun _ _ _ h => h) (Or.inl ⟨by kernel_rfl, ?h22⟩) ?_
            case h22 => intro w; go_simp; try with_reducible rfl
            go_simp
            refine wpAny_done (by kernel_rfl) ?_ _
            go_wp2
            go_ret3
            exact ⟨n, y, ls, al, cl, rfl, HLL.out, LO18.out, GR18.out⟩
        · skip
          go_simp
          refine (l20Lost_any R (p + 2) u9 RD9.out (by omega)).mono ?_
          rintro e u23 ⟨ls, al, cl, p9, rfl, hll, bl23, r23, _, g23⟩
          have RD23 := Lib.hid r23
          have GR23 := Lib.hid (grown_trans GR9.out g23)
          have LO23 := Lib.hid bl23
          have HLL := Lib.hid hll
          have C723 := Lib.hid (C79.out.grown g23)
          have C323 := Lib.hid (C39.out.grown g23)
          clear r23 g23 bl23 hll
          go_simp
          refine hK _ _ ?_
          clear hK K
          refine wpAny_take (i := 14) (v := ?v24) rfl (by kernel_rfl) (by kernel_rfl) (by kernel_rfl) (fun _ _ _ h => h) (Or.inl ⟨by kernel_rfl, ?h24⟩) ?_
          case h24 => intro w; go_simp; try with_reducible rfl
          go_simp
          refine wpAny_ready (rs := [9]) (by kernel_rfl) (by simp) (AllReady.cons rfl (fun K hK => ?_) AllReady.nil)
          go_simp
          obtain ⟨i6, hi6, hc6⟩ := C723.out.get hk6
          have hi6' : (i6 : Int) < 3 := by omega
          go_simp
          refine hK _ _ ?_
          clear hK K hc6
          refine wpAny_take (i := 10) (v := ?v26) rfl (by kernel_rfl) (by kernel_rfl) (by kernel_rfl) (fun _ _ _ h => h) (Or.inl ⟨by kernel_rfl, ?h26⟩) ?_
          case h26 => intro w; go_simp; try with_reducible rfl
          go_simp
          refine wpAny_ready (rs := [11]) (by kernel_rfl) (by simp) (AllReady.cons rfl (fun K hK => ?_) AllReady.nil)
          go_simp
          obtain ⟨y, hy⟩ := C323.out.get hi6
          go_simp
          refine hK _ _ ?_
          clear hK K hy
          refine wpAny_take (i := 15) (v := ?v28) rfl (by kernel_rfl) (by kernel_rfl) (by kernel_rfl) (fun _ _ _ h => h) (Or.inl ⟨by kernel_rfl, ?h28⟩) ?_
          case h28 => intro w; go_simp; try with_reducible rfl
          go_simp
          refine wpAny_take (i := 16) (v := ?v29) rfl (by kernel_rfl) (by kernel_rfl) (by kernel_rfl) (fun _ _ _ h => h) (Or.inl ⟨by kernel_rfl, ?h29⟩) ?_
          case h29 => intro w; go_simp; try with_reducible rfl
          go_simp
          refine wpAny_done (by kernel_rfl) ?_ _
          go_wp2
          go_ret3
          exact ⟨n, y, ls, al, cl, rfl, HLL.out, LO23.out, GR23.out⟩
      · skip
        go_simp
        refine (pick_any R (p + 1) 7 u7 RD7.out (by omega) (by omega) (by omega)).mono ?_
        rintro e u30 ⟨x30, ⟨hx30, hy30⟩, rfl, r30, g30⟩
        have RD30 := Lib.hid r30
        have GR30 := Lib.hid (grown_trans GR7.out g30)
        have C330 := Lib.hid (C37.out.grown g30)
        clear r30 g30
        go_simp
        refine hK _ _ ?_
        clear hK K
        obtain ⟨k6, rfl⟩ := Int.eq_ofNat_of_zero_le hx30
        have hk6 : k6 < 7 := by omega
        have hk6' : (k6 : Int) < 7 := by omega
        clear hx30 hy30
        refine wpAny_ready (rs := [5, 13]) (by kernel_rfl) (by simp) (AllReady.cons rfl (fun K hK => ?_) (AllReady.cons rfl (fun K hK => ?_) AllReady.nil))
        · skip
          go_simp
          refine hK _ _ ?_
          clear hK K
          have RD31 := Lib.hid (RD30.out.alloc (.cells #[.int .i64 0, .int .i64 0, .int .i64 0, .int .i64 0, .int .i64 0, .int .i64 1, .int .i64 2] 3))
          have GR31 := Lib.hid (grown_alloc GR30.out (.cells #[.int .i64 0, .int .i64 0, .int .i64 0, .int .i64 0, .int .i64 0, .int .i64 1, .int .i64 2] 3))
          have C331 := Lib.hid (C330.out.alloc (.cells #[.int .i64 0, .int .i64 0, .int .i64 0, .int .i64 0, .int .i64 0, .int .i64 1, .int .i64 2] 3))
          have C731 := Lib.hid (lit7_new (R := R) (W := u30) RD30.out.lt)
          generalize u30.alloc (.cells #[.int .i64 0, .int .i64 0, .int .i64 0, .int .i64 0, .int .i64 0, .int .i64 1, .int .i64 2] 3) = u31 at RD31 GR31 C331 C731 ⊢
          refine wpAny_take (i := 8) (v := ?v32) rfl (by kernel_rfl) (by kernel_rfl) (by kernel_rfl) (fun _ _ _ h => h) (Or.inl ⟨by kernel_rfl, ?h32⟩) ?_
          case h32 => intro w; go_simp; try with_reducible rfl
          go_simp
          refine wpAny_ready (rs := [9, 13]) (by kernel_rfl) (by simp) (AllReady.cons rfl (fun K hK => ?_) (AllReady.cons rfl (fun K hK => ?_) AllReady.nil))
          · skip
            go_simp
            obtain ⟨i6, hi6, hc6⟩ := C731.out.get hk6
            have hi6' : (i6 : Int) < 3 := by omega
            go_simp
            refine hK _ _ ?_
            clear hK K hc6
            refine wpAny_take (i := 10) (v := ?v34) rfl (by kernel_rfl) (by kernel_rfl) (by kernel_rfl) (fun _ _ _ h => h) (Or.inl ⟨by kernel_rfl, ?h34⟩) ?_
            case h34 => intro w; go_simp; try with_reducible rfl
            go_simp
            refine wpAny_ready (rs := [11, 13]) (by kernel_rfl) (by simp) (AllReady.cons rfl (fun K hK => ?_) (AllReady.cons rfl (fun K hK => ?_) AllReady.nil))
            · skip
              go_simp
              obtain ⟨y, hy⟩ := C331.out.get hi6
              go_simp
              refine hK _ _ ?_
              clear hK K hy
              refine wpAny_ready (rs := [13]) (by kernel_rfl) (by simp) (AllReady.cons rfl (fun K hK => ?_) AllReady.nil)
              go_simp
              refine (l20Lost_any R (p + 2) u31 RD31.out (by omega)).mono ?_
              rintro e u36 ⟨ls, al, cl, p9, rfl, hll, bl36, r36, _, g36⟩
              have RD36 := Lib.hid r36
              have GR36 := Lib.hid (grown_trans GR31.out g36)
              have LO36 := Lib.hid bl36
              have HLL := Lib.hid hll
              have C736 := Lib.hid (C731.out.grown g36)
              have C336 := Lib.hid (C331.out.grown g36)
              clear r36 g36 bl36 hll
              go_simp
              refine hK _ _ ?_
              clear hK K
              refine wpAny_take (i := 14) (v := ?v37) rfl (by kernel_rfl) (by kernel_rfl) (by kernel_rfl) (fun _ _ _ h => h) (Or.inl ⟨by kernel_rfl, ?h37⟩) ?_
              case h37 => intro w; go_simp; try with_reducible rfl
              go_simp
              refine wpAny_take (i := 15) (v := ?v38) rfl (by kernel_rfl) (by kernel_rfl) (by kernel_rfl) (fun _ _ _ h => h) (Or.inl ⟨by kernel_rfl, ?h38⟩) ?_
              case h38 => intro w; go_simp; try with_reducible rfl
              go_simp
              refine wpAny_take (i := 16) (v := ?v39) rfl (by kernel_rfl) (by kernel_rfl) (by kernel_rfl) (fun _ _ _ h => h) (Or.inl ⟨by kernel_rfl, ?h39⟩) ?_
              case h39 => intro w; go_simp; try with_reducible rfl
              go_simp
              refine wpAny_done (by kernel_rfl) ?_ _
              go_wp2
              go_ret3
              exact ⟨n, y, ls, al, cl, rfl, HLL.out, LO36.out, GR36.out⟩
            · skip
              go_simp
              refine (l20Lost_any R (p + 2) u31 RD31.out (by omega)).mono ?_
              rintro e u40 ⟨ls, al, cl, p9, rfl, hll, bl40, r40, _, g40⟩
              have RD40 := Lib.hid r40
              have GR40 := Lib.hid (grown_trans GR31.out g40)
              have LO40 := Lib.hid bl40
              have HLL := Lib.hid hll
              have C740 := Lib.hid (C731.out.grown g40)
              have C340 := Lib.hid (C331.out.grown g40)
              clear r40 g40 bl40 hll
              go_simp
              refine hK _ _ ?_
              clear hK K
              refine wpAny_take (i := 14) (v := ?v41) rfl (by kernel_rfl) (by kernel_rfl) (by kernel_rfl) (fun _ _ _ h => h) (Or.inl ⟨by kernel_rfl, ?h41⟩) ?_
              case h41 => intro w; go_simp; try with_reducible rfl
              go_simp
              refine wpAny_ready (rs := [11]) (by kernel_rfl) (by simp) (AllReady.cons rfl (fun K hK => ?_) AllReady.nil)
              go_simp
              obtain ⟨y, hy⟩ := C340.out.get hi6
              go_simp
              refine hK _ _ ?_
              clear hK K hy
              refine wpAny_take (i := 15) (v := ?v43) rfl (by kernel_rfl) (by kernel_rfl) (by kernel_rfl) (fun _ _ _ h => h) (Or.inl ⟨by kernel_rfl, ?h43⟩) ?_
              case h43 => intro w; go_simp; try with_reducible rfl
              go_simp
              refine wpAny_take (i := 16) (v := ?v44) rfl (by kernel_rfl) (by kernel_rfl) (by kernel_rfl) (fun _ _ _ h => h) (Or.inl ⟨by kernel_rfl, ?h44⟩) ?_
              case h44 => intro w; go_simp; try with_reducible rfl
              go_simp
              refine wpAny_done (by kernel_rfl) ?_ _
              go_wp2
              go_ret3
              exact ⟨n, y, ls, al, cl, rfl, HLL.out, LO40.out, GR40.out⟩
          · skip
            go_simp
            refine (l20Lost_any R (p + 2) u31 RD31.out (by omega)).mono ?_
            rintro e u45 ⟨ls, al, cl, p9, rfl, hll, bl45, r45, _, g45⟩
            have RD45 := Lib.hid r45
            have GR45 := Lib.hid (grown_trans GR31.out g45)
            have LO45 := Lib.hid bl45
            have HLL := Lib.hid hll
            have C745 := Lib.hid (C731.out.grown g45)
            have C345 := Lib.hid (C331.out.grown g45)
            clear r45 g45 bl45 hll
            go_simp
            refine hK _ _ ?_
            clear hK K
            refine wpAny_take (i := 14) (v := ?v46) rfl (by kernel_rfl) (by kernel_rfl) (by kernel_rfl) (fun _ _ _ h => h) (Or.inl ⟨by kernel_rfl, ?h46⟩) ?_
            case h46 => intro w; go_simp; try with_reducible rfl
            go_simp
            refine wpAny_ready (rs := [9]) (by kernel_rfl) (by simp) (AllReady.cons rfl (fun K hK => ?_) AllReady.nil)
            go_simp
            obtain ⟨i6, hi6, hc6⟩ := C745.out.get hk6
            have hi6' : (i6 : Int) < 3 := by omega
            go_simp
            refine hK _ _ ?_
            clear hK K hc6
            refine wpAny_take (i := 10) (v := ?v48) rfl (by kernel_rfl) (by kernel_rfl) (by kernel_rfl) (fun _ _ _ h => h) (Or.inl ⟨by kernel_rfl, ?h48⟩) ?_
            case h48 => intro w; go_simp; try with_reducible rfl
            go_simp
            refine wpAny_ready (rs := [11]) (by kernel_rfl) (by simp) (AllReady.cons rfl (fun K hK => ?_) AllReady.nil)
            go_simp
            obtain ⟨y, hy⟩ := C345.out.get hi6
            go_simp
            refine hK _ _ ?_
            clear hK K hy
            refine wpAny_take (i := 15) (v := ?v50) rfl (by kernel_rfl) (by kernel_rfl) (by kernel_rfl) (fun _ _ _ h => h) (Or.inl ⟨by kernel_rfl, ?h50⟩) ?_
            case h50 => intro w; go_simp; try with_reducible rfl
            go_simp
            refine wpAny_take (i := 16) (v := ?v51) rfl (by kernel_rfl) (by kernel_rfl) (by kernel_rfl) (fun _ _ _ h => h) (Or.inl ⟨by kernel_rfl, ?h51⟩) ?_
            case h51 => intro w; go_simp; try with_reducible rfl
            go_simp
            refine wpAny_done (by kernel_rfl) ?_ _
            go_wp2
            go_ret3
            exact ⟨n, y, ls, al, cl, rfl, HLL.out, LO45.out, GR45.out⟩
        · skip
          go_simp
          refine (l20Lost_any R (p + 2) u30 RD30.out (by omega)).mono ?_
          rintro e u52 ⟨ls, al, cl, p9, rfl, hll, bl52, r52, _, g52⟩
          have RD52 := Lib.hid r52
          have GR52 := Lib.hid (grown_trans GR30.out g52)
          have LO52 := Lib.hid bl52
          have HLL := Lib.hid hll
          have C352 := Lib.hid (C330.out.grown g52)
          clear r52 g52 bl52 hll
          go_simp
          refine hK _ _ ?_
          clear hK K
          refine wpAny_take (i := 14) (v := ?v53) rfl (by kernel_rfl) (by kernel_rfl) (by kernel_rfl) (fun _ _ _ h => h) (Or.inl ⟨by kernel_rfl, ?h53⟩) ?_
          case h53 => intro w; go_simp; try with_reducible rfl
          go_simp
          refine wpAny_ready (rs := [5]) (by kernel_rfl) (by simp) (AllReady.cons rfl (fun K hK => ?_) AllReady.nil)
          go_simp
          refine hK _ _ ?_
          clear hK K
          have RD54 := Lib.hid (RD52.out.alloc (.cells #[.int .i64 0, .int .i64 0, .int .i64 0, .int .i64 0, .int .i64 0, .int .i64 1, .int .i64 2] 3))
          have GR54 := Lib.hid (grown_alloc GR52.out (.cells #[.int .i64 0, .int .i64 0, .int .i64 0, .int .i64 0, .int .i64 0, .int .i64 1, .int .i64 2] 3))
          have C354 := Lib.hid (C352.out.alloc (.cells #[.int .i64 0, .int .i64 0, .int .i64 0, .int .i64 0, .int .i64 0, .int .i64 1, .int .i64 2] 3))
          have LO54 := Lib.hid (LO52.out.next (alloc_belowX u52 (.cells #[.int .i64 0, .int .i64 0, .int .i64 0, .int .i64 0, .int .i64 0, .int .i64 1, .int .i64 2] 3)))
          have C754 := Lib.hid (lit7_new (R := R) (W := u52) RD52.out.lt)
          generalize u52.alloc (.cells #[.int .i64 0, .int .i64 0, .int .i64 0, .int .i64 0, .int .i64 0, .int .i64 1, .int .i64 2] 3) = u54 at RD54 GR54 C354 LO54 C754 ⊢
          refine wpAny_take (i := 8) (v := ?v55) rfl (by kernel_rfl) (by kernel_rfl) (by kernel_rfl) (fun _ _ _ h => h) (Or.inl ⟨by kernel_rfl, ?h55⟩) ?_
          case h55 => intro w; go_simp; try with_reducible rfl
          go_simp
          refine wpAny_ready (rs := [9]) (by kernel_rfl) (by simp) (AllReady.cons rfl (fun K hK => ?_) AllReady.nil)
          go_simp
          obtain ⟨i6, hi6, hc6⟩ := C754.out.get hk6
          have hi6' : (i6 : Int) < 3 := by omega
          go_simp
          refine hK _ _ ?_
          clear hK K hc6
          refine wpAny_take (i := 10) (v := ?v57) rfl (by kernel_rfl) (by kernel_rfl) (by kernel_rfl) (fun _ _ _ h => h) (Or.inl ⟨by kernel_rfl, ?h57⟩) ?_
          case h57 => intro w; go_simp; try with_reducible rfl
          go_simp
          refine wpAny_ready (rs := [11]) (by kernel_rfl) (by simp) (AllReady.cons rfl (fun K hK => ?_) AllReady.nil)
          go_simp
          obtain ⟨y, hy⟩ := C354.out.get hi6
          go_simp
          refine hK _ _ ?_
          clear hK K hy
          refine wpAny_take (i := 15) (v := ?v59) rfl (by kernel_rfl) (by kernel_rfl) (by kernel_rfl) (fun _ _ _ h => h) (Or.inl ⟨by kernel_rfl, ?h59⟩) ?_
          case h59 => intro w; go_simp; try with_reducible rfl
          go_simp
          refine wpAny_take (i := 16) (v := ?v60) rfl (by kernel_rfl) (by kernel_rfl) (by kernel_rfl) (fun _ _ _ h => h) (Or.inl ⟨by kernel_rfl, ?h60⟩) ?_
          case h60 => intro w; go_simp; try with_reducible rfl
          go_simp
          refine wpAny_done (by kernel_rfl) ?_ _
          go_wp2
          go_ret3
          exact ⟨n, y, ls, al, cl, rfl, HLL.out, LO54.out, GR54.out⟩
    · skip
      go_simp
      refine hK _ _ ?_
      clear hK K
      have RD61 := Lib.hid (RD5.out.alloc (.cells #[.int .i64 0, .int .i64 0, .int .i64 0, .int .i64 0, .int .i64 0, .int .i64 1, .int .i64 2] 3))
      have GR61 := Lib.hid (grown_alloc GR5.out (.cells #[.int .i64 0, .int .i64 0, .int .i64 0, .int .i64 0, .int .i64 0, .int .i64 1, .int .i64 2] 3))
      have C761 := Lib.hid (lit7_new (R := R) (W := u5) RD5.out.lt)
      generalize u5.alloc (.cells #[.int .i64 0, .int .i64 0, .int .i64 0, .int .i64 0, .int .i64 0, .int .i64 1, .int .i64 2] 3) = u61 at RD61 GR61 C761 ⊢
      refine wpAny_ready (rs := [4, 7]) (by kernel_rfl) (by simp) (AllReady.cons rfl (fun K hK => ?_) (AllReady.cons rfl (fun K hK => ?_) AllReady.nil))
      · skip
        go_simp
        refine hK _ _ ?_
        clear hK K
        have RD62 := Lib.hid (RD61.out.alloc (.cells #[.int .i64 (1 + v1), .int .i64 0, .int .i64 9] 3))
        have GR62 := Lib.hid (grown_alloc GR61.out (.cells #[.int .i64 (1 + v1), .int .i64 0, .int .i64 9] 3))
        have C762 := Lib.hid (C761.out.alloc (.cells #[.int .i64 (1 + v1), .int .i64 0, .int .i64 9] 3))
        have C362 := Lib.hid (lit3_new (R := R) (W := u61) (v := 1 + v1) RD61.out.lt)
        generalize u61.alloc (.cells #[.int .i64 (1 + v1), .int .i64 0, .int .i64 9] 3) = u62 at RD62 GR62 C762 C362 ⊢
        refine wpAny_ready (rs := [7]) (by kernel_rfl) (by simp) (AllReady.cons rfl (fun K hK => ?_) AllReady.nil)
        go_simp
        refine (pick_any R (p + 1) 7 u62 RD62.out (by omega) (by omega) (by omega)).mono ?_
        rintro e u63 ⟨x63, ⟨hx63, hy63⟩, rfl, r63, g63⟩
        have RD63 := Lib.hid r63
        have GR63 := Lib.hid (grown_trans GR62.out g63)
        have C763 := Lib.hid (C762.out.grown g63)
        have C363 := Lib.hid (C362.out.grown g63)
        clear r63 g63
        go_simp
        refine hK _ _ ?_
        clear hK K
        obtain ⟨k6, rfl⟩ := Int.eq_ofNat_of_zero_le hx63
        have hk6 : k6 < 7 := by omega
        have hk6' : (k6 : Int) < 7 := by omega
        clear hx63 hy63
        refine wpAny_take (i := 8) (v := ?v64) rfl (by kernel_rfl) (by kernel_rfl) (by kernel_rfl) (fun _ _ _ h => h) (Or.inl ⟨by kernel_rfl, ?h64⟩) ?_
        case h64 => intro w; go_simp; try with_reducible rfl
        go_simp
        refine wpAny_ready (rs := [9, 13]) (by kernel_rfl) (by simp) (AllReady.cons rfl (fun K hK => ?_) (AllReady.cons rfl (fun K hK => ?_) AllReady.nil))
        · skip
          go_simp
          obtain ⟨i6, hi6, hc6⟩ := C763.out.get hk6
          have hi6' : (i6 : Int) < 3 := by omega
          go_simp
          refine hK _ _ ?_
          clear hK K hc6
          refine wpAny_take (i := 10) (v := ?v66) rfl (by kernel_rfl) (by kernel_rfl) (by kernel_rfl) (fun _ _ _ h => h) (Or.inl ⟨by kernel_rfl, ?h66⟩) ?_
          case h66 => intro w; go_simp; try with_reducible rfl
          go_simp
          refine wpAny_ready (rs := [11, 13]) (by kernel_rfl) (by simp) (AllReady.cons rfl (fun K hK => ?_) (AllReady.cons rfl (fun K hK => ?_) AllReady.nil))
          · skip
            go_simp
            obtain ⟨y, hy⟩ := C363.out.get hi6
            go_simp
            refine hK _ _ ?_
            clear hK K hy
            refine wpAny_ready (rs := [13]) (by kernel_rfl) (by simp) (AllReady.cons rfl (fun K hK => ?_) AllReady.nil)
            go_simp
            refine (l20Lost_any R (p + 2) u63 RD63.out (by omega)).mono ?_
            rintro e u68 ⟨ls, al, cl, p9, rfl, hll, bl68, r68, _, g68⟩
            have RD68 := Lib.hid r68
            have GR68 := Lib.hid (grown_trans GR63.out g68)
            have LO68 := Lib.hid bl68
            have HLL := Lib.hid hll
            have C768 := Lib.hid (C763.out.grown g68)
            have C368 := Lib.hid (C363.out.grown g68)
            clear r68 g68 bl68 hll
            go_simp
            refine hK _ _ ?_
            clear hK K
            refine wpAny_take (i := 14) (v := ?v69) rfl (by kernel_rfl) (by kernel_rfl) (by kernel_rfl) (fun _ _ _ h => h) (Or.inl ⟨by kernel_rfl, ?h69⟩) ?_
            case h69 => intro w; go_simp; try with_reducible rfl
            go_simp
            refine wpAny_take (i := 15) (v := ?v70) rfl (by kernel_rfl) (by kernel_rfl) (by kernel_rfl) (fun _ _ _ h => h) (Or.inl ⟨by kernel_rfl, ?h70⟩) ?_
            case h70 => intro w; go_simp; try with_reducible rfl
            go_simp
            refine wpAny_take (i := 16) (v := ?v71) rfl (by kernel_rfl) (by kernel_rfl) (by kernel_rfl) (fun _ _ _ h => h) (Or.inl ⟨by kernel_rfl, ?h71⟩) ?_
            case h71 => intro w; go_simp; try with_reducible rfl
            go_simp
            refine wpAny_done (by kernel_rfl) ?_ _
            go_wp2
            go_ret3
            exact ⟨n, y, ls, al, cl, rfl, HLL.out, LO68.out, GR68.out⟩
          · skip
            go_simp
            refine (l20Lost_any R (p + 2) u63 RD63.out (by omega)).mono ?_
            rintro e u72 ⟨ls, al, cl, p9, rfl, hll, bl72, r72, _, g72⟩
            have RD72 := Lib.hid r72
            have GR72 := Lib.hid (grown_trans GR63.out g72)
            have LO72 := Lib.hid bl72
            have HLL := Lib.hid hll
            have C772 := Lib.hid (C763.out.grown g72)
            have C372 := Lib.hid (C363.out.grown g72)
            clear r72 g72 bl72 hll
            go_simp
            refine hK _ _ ?_
            clear hK K
            refine wpAny_take (i := 14) (v := ?v73) rfl (by kernel_rfl) (by kernel_rfl) (by kernel_rfl) (fun _ _ _ h => h) (Or.inl ⟨by kernel_rfl, ?h73⟩) ?_
            case h73 => intro w; go_simp; try with_reducible rfl
            go_simp
            refine wpAny_ready (rs := [11]) (by kernel_rfl) (by simp) (AllReady.cons rfl (fun K hK => ?_) AllReady.nil)
            go_simp
            obtain ⟨y, hy⟩ := C372.out.get hi6
            go_simp
            refine hK _ _ ?_
            clear hK K hy
            refine wpAny_take (i := 15) (v := ?v75) rfl (by kernel_rfl) (by kernel_rfl) (by kernel_rfl) (fun _ _ _ h => h) (Or.inl ⟨by kernel_rfl, ?h75⟩) ?_
            case h75 => intro w; go_simp; try with_reducible rfl
            go_simp
            refine wpAny_take (i := 16) (v := ?v76) rfl (by kernel_rfl) (by kernel_rfl) (by kernel_rfl) (fun _ _ _ h => h) (Or.inl ⟨by kernel_rfl, ?h76⟩) ?_
            case h76 => intro w; go_simp; try with_reducible rfl
            go_simp
            refine wpAny_done (by kernel_rfl) ?_ _
            go_wp2
            go_ret3
            exact ⟨n, y, ls, al, cl, rfl, HLL.out, LO72.out, GR72.out⟩
        · skip
          go_simp
          refine (l20Lost_any R (p + 2) u63 RD63.out (by omega)).mono ?_
          rintro e u77 ⟨ls, al, cl, p9, rfl, hll, bl77, r77, _, g77⟩
          have RD77 := Lib.hid r77
          have GR77 := Lib.hid (grown_trans GR63.out g77)
          have LO77 := Lib.hid bl77
          have HLL := Lib.hid hll
          have C777 := Lib.hid (C763.out.grown g77)
          have C377 := Lib.hid (C363.out.grown g77)
          clear r77 g77 bl77 hll
          go_simp
          refine hK _ _ ?_
          clear hK K
          refine wpAny_take (i := 14) (v := ?v78) rfl (by kernel_rfl) (by kernel_rfl) (by kernel_rfl) (fun _ _ _ h => h) (Or.inl ⟨by kernel_rfl, ?h78⟩) ?_
          case h78 => intro w; go_simp; try with_reducible rfl
          go_simp
          refine wpAny_ready (rs := [9]) (by kernel_rfl) (by simp) (AllReady.cons rfl (fun K hK => ?_) AllReady.nil)
          go_simp
          obtain ⟨i6, hi6, hc6⟩ := C777.out.get hk6
          have hi6' : (i6 : Int) < 3 := by omega
          go_simp
          refine hK _ _ ?_
          clear hK K hc6
          refine wpAny_take (i := 10) (v := ?v80) rfl (by kernel_rfl) (by kernel_rfl) (by kernel_rfl) (fun _ _ _ h => h) (Or.inl ⟨by kernel_rfl, ?h80⟩) ?_
          case h80 => intro w; go_simp; try with_reducible rfl
          go_simp
          refine wpAny_ready (rs := [11]) (by kernel_rfl) (by simp) (AllReady.cons rfl (fun K hK => ?_) AllReady.nil)
          go_simp
          obtain ⟨y, hy⟩ := C377.out.get hi6
          go_simp
          refine hK _ _ ?_
          clear hK K hy
          refine wpAny_take (i := 15) (v := ?v82) rfl (by kernel_rfl) (by kernel_rfl) (by kernel_rfl) (fun _ _ _ h => h) (Or.inl ⟨by kernel_rfl, ?h82⟩) ?_
          case h82 => intro w; go_simp; try with_reducible rfl
          go_simp
          refine wpAny_take (i := 16) (v := ?v83) rfl (by kernel_rfl) (by kernel_rfl) (by kernel_rfl) (fun _ _ _ h => h) (Or.inl ⟨by kernel_rfl, ?h83⟩) ?_
          case h83 => intro w; go_simp; try with_reducible rfl
          go_simp
          refine wpAny_done (by kernel_rfl) ?_ _
          go_wp2
          go_ret3
          exact ⟨n, y, ls, al, cl, rfl, HLL.out, LO77.out, GR77.out⟩
      · skip
        go_simp
        refine (pick_any R (p + 1) 7 u61 RD61.out (by omega) (by omega) (by omega)).mono ?_
        rintro e u84 ⟨x84, ⟨hx84, hy84⟩, rfl, r84, g84⟩
        have RD84 := Lib.hid r84
        have GR84 := Lib.hid (grown_trans GR61.out g84)
        have C784 := Lib.hid (C761.out.grown g84)
        clear r84 g84
        go_simp
        refine hK _ _ ?_
        clear hK K
        obtain ⟨k6, rfl⟩ := Int.eq_ofNat_of_zero_le hx84
        have hk6 : k6 < 7 := by omega
        have hk6' : (k6 : Int) < 7 := by omega
        clear hx84 hy84
        refine wpAny_take (i := 8) (v := ?v85) rfl (by kernel_rfl) (by kernel_rfl) (by kernel_rfl) (fun _ _ _ h => h) (Or.inl ⟨by kernel_rfl, ?h85⟩) ?_
        case h85 => intro w; go_simp; try with_reducible rfl
        go_simp
        refine wpAny_ready (rs := [4, 9, 13]) (by kernel_rfl) (by simp) (AllReady.cons rfl (fun K hK => ?_) (AllReady.cons rfl (fun K hK => ?_) (AllReady.cons rfl (fun K hK => ?_) AllReady.nil)))
        · skip
          go_simp
          refine hK _ _ ?_
          clear hK K
          have RD86 := Lib.hid (RD84.out.alloc (.cells #[.int .i64 (1 + v1), .int .i64 0, .int .i64 9] 3))
          have GR86 := Lib.hid (grown_alloc GR84.out (.cells #[.int .i64 (1 + v1), .int .i64 0, .int .i64 9] 3))
          have C786 := Lib.hid (C784.out.alloc (.cells #[.int .i64 (1 + v1), .int .i64 0, .int .i64 9] 3))
          have C386 := Lib.hid (lit3_new (R := R) (W := u84) (v := 1 + v1) RD84.out.lt)
          generalize u84.alloc (.cells #[.int .i64 (1 + v1), .int .i64 0, .int .i64 9] 3) = u86 at RD86 GR86 C786 C386 ⊢
          refine wpAny_ready (rs := [9, 13]) (by kernel_rfl) (by simp) (AllReady.cons rfl (fun K hK => ?_) (AllReady.cons rfl (fun K hK => ?_) AllReady.nil))
          · skip
            go_simp
            obtain ⟨i6, hi6, hc6⟩ := C786.out.get hk6
            have hi6' : (i6 : Int) < 3 := by omega
            go_simp
            refine hK _ _ ?_
            clear hK K hc6
            refine wpAny_take (i := 10) (v := ?v88) rfl (by kernel_rfl) (by kernel_rfl) (by kernel_rfl) (fun _ _ _ h => h) (Or.inl ⟨by kernel_rfl, ?h88⟩) ?_
            case h88 => intro w; go_simp; try with_reducible rfl
            go_simp
            refine wpAny_ready (rs := [11, 13]) (by kernel_rfl) (by simp) (AllReady.cons rfl (fun K hK => ?_) (AllReady.cons rfl (fun K hK => ?_) AllReady.nil))
            · skip
              go_simp
              obtain ⟨y, hy⟩ := C386.out.get hi6
              go_simp
              refine hK _ _ ?_
              clear hK K hy
              refine wpAny_ready (rs := [13]) (by kernel_rfl) (by simp) (AllReady.cons rfl (fun K hK => ?_) AllReady.nil)
              go_simp
              refine (l20Lost_any R (p + 2) u86 RD86.out (by omega)).mono ?_
              rintro e u90 ⟨ls, al, cl, p9, rfl, hll, bl90, r90, _, g90⟩
              have RD90 := Lib.hid r90
              have GR90 := Lib.hid (grown_trans GR86.out g90)
              have LO90 := Lib.hid bl90
              have HLL := Lib.hid hll
              have C790 := Lib.hid (C786.out.grown g90)
              have C390 := Lib.hid (C386.out.grown g90)
              clear r90 g90 bl90 hll
              go_simp
              refine hK _ _ ?_
              clear hK K
              refine wpAny_take (i := 14) (v := ?v91) rfl (by kernel_rfl) (by kernel_rfl) (by kernel_rfl) (fun _ _ _ h => h) (Or.inl ⟨by kernel_rfl, ?h91⟩) ?_
              case h91 => intro w; go_simp; try with_reducible rfl
              go_simp
              refine wpAny_take (i := 15) (v := ?v92) rfl (by kernel_rfl) (by kernel_rfl) (by kernel_rfl) (fun _ _ _ h => h) (Or.inl ⟨by kernel_rfl, ?h92⟩) ?_
              case h92 => intro w; go_simp; try with_reducible rfl
              go_simp
              refine wpAny_take (i := 16) (v := ?v93) rfl (by kernel_rfl) (by kernel_rfl) (by kernel_rfl) (fun _ _ _ h => h) (Or.inl ⟨by kernel_rfl, ?h93⟩) ?_
              case h93 => intro w; go_simp; try with_reducible rfl
              go_simp
              refine wpAny_done (by kernel_rfl) ?_ _
              go_wp2
              go_ret3
              exact ⟨n, y, ls, al, cl, rfl, HLL.out, LO90.out, GR90.out⟩
            · skip
              go_simp
              refine (l20Lost_any R (p + 2) u86 RD86.out (by omega)).mono ?_
              rintro e u94 ⟨ls, al, cl, p9, rfl, hll, bl94, r94, _, g94⟩
              have RD94 := Lib.hid r94
              have GR94 := Lib.hid (grown_trans GR86.out g94)
              have LO94 := Lib.hid bl94
              have HLL := Lib.hid hll
              have C794 := Lib.hid (C786.out.grown g94)
              have C394 := Lib.hid (C386.out.grown g94)
              clear r94 g94 bl94 hll
              go_simp
              refine hK _ _ ?_
              clear hK K
              refine wpAny_take (i := 14) (v := ?v95) rfl (by kernel_rfl) (by kernel_rfl) (by kernel_rfl) (fun _ _ _ h => h) (Or.inl ⟨by kernel_rfl, ?h95⟩) ?_
              case h95 => intro w; go_simp; try with_reducible rfl
              go_simp
              refine wpAny_ready (rs := [11]) (by kernel_rfl) (by simp) (AllReady.cons rfl (fun K hK => ?_) AllReady.nil)
              go_simp
              obtain ⟨y, hy⟩ := C394.out.get hi6
              go_simp
              refine hK _ _ ?_
              clear hK K hy
              refine wpAny_take (i := 15) (v := ?v97) rfl (by kernel_rfl) (by kernel_rfl) (by kernel_rfl) (fun _ _ _ h => h) (Or.inl ⟨by kernel_rfl, ?h97⟩) ?_
              case h97 => intro w; go_simp; try with_reducible rfl
              go_simp
              refine wpAny_take (i := 16) (v := ?v98) rfl (by kernel_rfl) (by kernel_rfl) (by kernel_rfl) (fun _ _ _ h => h) (Or.inl ⟨by kernel_rfl, ?h98⟩) ?_
              case h98 => intro w; go_simp; try with_reducible rfl
              go_simp
              refine wpAny_done (by kernel_rfl) ?_ _
              go_wp2
              go_ret3
              exact ⟨n, y, ls, al, cl, rfl, HLL.out, LO94.out, GR94.out⟩
          · skip
            go_simp
            refine (l20Lost_any R (p + 2) u86 RD86.out (by omega)).mono ?_
            rintro e u99 ⟨ls, al, cl, p9, rfl, hll, bl99, r99, _, g99⟩
            have RD99 := Lib.hid r99
            have GR99 := Lib.hid (grown_trans GR86.out g99)
            have LO99 := Lib.hid bl99
            have HLL := Lib.hid hll
            have C799 := Lib.hid (C786.out.grown g99)
            have C399 := Lib.hid (C386.out.grown g99)
            clear r99 g99 bl99 hll
            go_simp
            refine hK _ _ ?_
            clear hK K
            refine wpAny_take (i := 14) (v := ?v100) rfl (by kernel_rfl) (by kernel_rfl) (by kernel_rfl) (fun _ _ _ h => h) (Or.inl ⟨by kernel_rfl, ?h100⟩) ?_
            case h100 => intro w; go_simp; try with_reducible rfl
            go_simp
            refine wpAny_ready (rs := [9]) (by kernel_rfl) (by simp) (AllReady.cons rfl (fun K hK => ?_) AllReady.nil)
            go_simp
            obtain ⟨i6, hi6, hc6⟩ := C799.out.get hk6
            have hi6' : (i6 : Int) < 3 := by omega
            go_simp
            refine hK _ _ ?_
            clear hK K hc6
            refine wpAny_take (i := 10) (v := ?v102) rfl (by kernel_rfl) (by kernel_rfl) (by kernel_rfl) (fun _ _ _ h => h) (Or.inl ⟨by kernel_rfl, ?h102⟩) ?_
            case h102 => intro w; go_simp; try with_reducible rfl
            go_simp
            refine wpAny_ready (rs := [11]) (by kernel_rfl) (by simp) (AllReady.cons rfl (fun K hK => ?_) AllReady.nil)
            go_simp
            obtain ⟨y, hy⟩ := C399.out.get hi6
            go_simp
            refine hK _ _ ?_
            clear hK K hy
            refine wpAny_take (i := 15) (v := ?v104) rfl (by kernel_rfl) (by kernel_rfl) (by kernel_rfl) (fun _ _ _ h => h) (Or.inl ⟨by kernel_rfl, ?h104⟩) ?_
            case h104 => intro w; go_simp; try with_reducible rfl
            go_simp
            refine wpAny_take (i := 16) (v := ?v105) rfl (by kernel_rfl) (by kernel_rfl) (by kernel_rfl) (fun _ _ _ h => h) (Or.inl ⟨by kernel_rfl, ?h105⟩) ?_
            case h105 => intro w; go_simp; try with_reducible rfl
            go_simp
            refine wpAny_done (by kernel_rfl) ?_ _
            go_wp2
            go_ret3
            exact ⟨n, y, ls, al, cl, rfl, HLL.out, LO99.out, GR99.out⟩
        · skip
          go_simp
          obtain ⟨i6, hi6, hc6⟩ := C784.out.get hk6
          have hi6' : (i6 : Int) < 3 := by omega
          go_simp
          refine hK _ _ ?_
          clear hK K hc6
          refine wpAny_ready (rs := [4, 13]) (by kernel_rfl) (by simp) (AllReady.cons rfl (fun K hK => ?_) (AllReady.cons rfl (fun K hK => ?_) AllReady.nil))
          · skip
            go_simp
            refine hK _ _ ?_
            clear hK K
            have RD107 := Lib.hid (RD84.out.alloc (.cells #[.int .i64 (1 + v1), .int .i64 0, .int .i64 9] 3))
            have GR107 := Lib.hid (grown_alloc GR84.out (.cells #[.int .i64 (1 + v1), .int .i64 0, .int .i64 9] 3))
            have C7107 := Lib.hid (C784.out.alloc (.cells #[.int .i64 (1 + v1), .int .i64 0, .int .i64 9] 3))
            have C3107 := Lib.hid (lit3_new (R := R) (W := u84) (v := 1 + v1) RD84.out.lt)
            generalize u84.alloc (.cells #[.int .i64 (1 + v1), .int .i64 0, .int .i64 9] 3) = u107 at RD107 GR107 C7107 C3107 ⊢
            refine wpAny_take (i := 10) (v := ?v108) rfl (by kernel_rfl) (by kernel_rfl) (by kernel_rfl) (fun _ _ _ h => h) (Or.inl ⟨by kernel_rfl, ?h108⟩) ?_
            case h108 => intro w; go_simp; try with_reducible rfl
            go_simp
            refine wpAny_ready (rs := [11, 13]) (by kernel_rfl) (by simp) (AllReady.cons rfl (fun K hK => ?_) (AllReady.cons rfl (fun K hK => ?_) AllReady.nil))
            · skip
              go_simp
              obtain ⟨y, hy⟩ := C3107.out.get hi6
              go_simp
              refine hK _ _ ?_
              clear hK K hy
              refine wpAny_ready (rs := [13]) (by kernel_rfl) (by simp) (AllReady.cons rfl (fun K hK => ?_) AllReady.nil)
              go_simp
              refine (l20Lost_any R (p + 2) u107 RD107.out (by omega)).mono ?_
              rintro e u110 ⟨ls, al, cl, p9, rfl, hll, bl110, r110, _, g110⟩
              have RD110 := Lib.hid r110
              have GR110 := Lib.hid (grown_trans GR107.out g110)
              have LO110 := Lib.hid bl110
              have HLL := Lib.hid hll
              have C7110 := Lib.hid (C7107.out.grown g110)
              have C3110 := Lib.hid (C3107.out.grown g110)
              clear r110 g110 bl110 hll
              go_simp
              refine hK _ _ ?_
              clear hK K
              refine wpAny_take (i := 14) (v := ?v111) rfl (by kernel_rfl) (by kernel_rfl) (by kernel_rfl) (fun _ _ _ h => h) (Or.inl ⟨by kernel_rfl, ?h111⟩) ?_
              case h111 => intro w; go_simp; try with_reducible rfl
              go_simp
              refine wpAny_take (i := 15) (v := ?v112) rfl (by kernel_rfl) (by kernel_rfl) (by kernel_rfl) (fun _ _ _ h => h) (Or.inl ⟨by kernel_rfl, ?h112⟩) ?_
              case h112 => intro w; go_simp; try with_reducible rfl
              go_simp
              refine wpAny_take (i := 16) (v := ?v113) rfl (by kernel_rfl) (by kernel_rfl) (by kernel_rfl) (fun _ _ _ h => h) (Or.inl ⟨by kernel_rfl, ?h113⟩) ?_
              case h113 => intro w; go_simp; try with_reducible rfl
              go_simp
              refine wpAny_done (by kernel_rfl) ?_ _
              go_wp2
              go_ret3
              exact ⟨n, y, ls, al, cl, rfl, HLL.out, LO110.out, GR110.out⟩
            · skip
              go_simp
              refine (l20Lost_any R (p + 2) u107 RD107.out (by omega)).mono ?_
              rintro e u114 ⟨ls, al, cl, p9, rfl, hll, bl114, r114, _, g114⟩
              have RD114 := Lib.hid r114
              have GR114 := Lib.hid (grown_trans GR107.out g114)
              have LO114 := Lib.hid bl114
              have HLL := Lib.hid hll
              have C7114 := Lib.hid (C7107.out.grown g114)
              have C3114 := Lib.hid (C3107.out.grown g114)
              clear r114 g114 bl114 hll
              go_simp
              refine hK _ _ ?_
              clear hK K
              refine wpAny_take (i := 14) (v := ?v115) rfl (by kernel_rfl) (by kernel_rfl) (by kernel_rfl) (fun _ _ _ h => h) (Or.inl ⟨by kernel_rfl, ?h115⟩) ?_
              case h115 => intro w; go_simp; try with_reducible rfl
              go_simp
              refine wpAny_ready (rs := [11]) (by kernel_rfl) (by simp) (AllReady.cons rfl (fun K hK => ?_) AllReady.nil)
              go_simp
              obtain ⟨y, hy⟩ := C3114.out.get hi6
              go_simp
              refine hK _ _ ?_
              clear hK K hy
              refine wpAny_take (i := 15) (v := ?v117) rfl (by kernel_rfl) (by kernel_rfl) (by kernel_rfl) (fun _ _ _ h => h) (Or.inl ⟨by kernel_rfl, ?h117⟩) ?_
              case h117 => intro w; go_simp; try with_reducible rfl
              go_simp
              refine wpAny_take (i := 16) (v := ?v118) rfl (by kernel_rfl) (by kernel_rfl) (by kernel_rfl) (fun _ _ _ h => h) (Or.inl ⟨by kernel_rfl, ?h118⟩) ?_
              case h118 => intro w; go_simp; try with_reducible rfl
              go_simp
              refine wpAny_done (by kernel_rfl) ?_ _
              go_wp2
              go_ret3
              exact ⟨n, y, ls, al, cl, rfl, HLL.out, LO114.out, GR114.out⟩
          · skip
            go_simp
            refine (l20Lost_any R (p + 2) u84 RD84.out (by omega)).mono ?_
            rintro e u119 ⟨ls, al, cl, p9, rfl, hll, bl119, r119, _, g119⟩
            have RD119 := Lib.hid r119
            have GR119 := Lib.hid (grown_trans GR84.out g119)
            have LO119 := Lib.hid bl119
            have HLL := Lib.hid hll
            have C7119 := Lib.hid (C784.out.grown g119)
            clear r119 g119 bl119 hll
            go_simp
            refine hK _ _ ?_
            clear hK K
            refine wpAny_take (i := 14) (v := ?v120) rfl (by kernel_rfl) (by kernel_rfl) (by kernel_rfl) (fun _ _ _ h => h) (Or.inl ⟨by kernel_rfl, ?h120⟩) ?_
            case h120 => intro w; go_simp; try with_reducible rfl
            go_simp
            refine wpAny_ready (rs := [4]) (by kernel_rfl) (by simp) (AllReady.cons rfl (fun K hK => ?_) AllReady.nil)
            go_simp
            refine hK _ _ ?_
            clear hK K
            have RD121 := Lib.hid (RD119.out.alloc (.cells #[.int .i64 (1 + v1), .int .i64 0, .int .i64 9] 3))
            have GR121 := Lib.hid (grown_alloc GR119.out (.cells #[.int .i64 (1 + v1), .int .i64 0, .int .i64 9] 3))
            have C7121 := Lib.hid (C7119.out.alloc (.cells #[.int .i64 (1 + v1), .int .i64 0, .int .i64 9] 3))
            have LO121 := Lib.hid (LO119.out.next (alloc_belowX u119 (.cells #[.int .i64 (1 + v1), .int .i64 0, .int .i64 9] 3)))
            have C3121 := Lib.hid (lit3_new (R := R) (W := u119) (v := 1 + v1) RD119.out.lt)
            generalize u119.alloc (.cells #[.int .i64 (1 + v1), .int .i64 0, .int .i64 9] 3) = u121 at RD121 GR121 C7121 LO121 C3121 ⊢
            refine wpAny_take (i := 10) (v := ?v122) rfl (by kernel_rfl) (by kernel_rfl) (by kernel_rfl) (fun _ _ _ h => h) (Or.inl ⟨by kernel_rfl, ?h122⟩) ?_
            case h122 => intro w; go_simp; try with_reducible rfl
            go_simp
            refine wpAny_ready (rs := [11]) (by kernel_rfl) (by simp) (AllReady.cons rfl (fun K hK => ?_) AllReady.nil)
            go_simp
            obtain ⟨y, hy⟩ := C3121.out.get hi6
            go_simp
            refine hK _ _ ?_
            clear hK K hy
            refine wpAny_take (i := 15) (v := ?v124) rfl (by kernel_rfl) (by kernel_rfl) (by kernel_rfl) (fun _ _ _ h => h) (Or.inl ⟨by kernel_rfl, ?h124⟩) ?_
            case h124 => intro w; go_simp; try with_reducible rfl
            go_simp
            refine wpAny_take (i := 16) (v := ?v125) rfl (by kernel_rfl) (by kernel_rfl) (by kernel_rfl) (fun _ _ _ h => h) (Or.inl ⟨by kernel_rfl, ?h125⟩) ?_
            case h125 => intro w; go_simp; try with_reducible rfl
            go_simp
            refine wpAny_done (by kernel_rfl) ?_ _
            go_wp2
            go_ret3
            exact ⟨n, y, ls, al, cl, rfl, HLL.out, LO121.out, GR121.out⟩
        · skip
          go_simp
          refine (l20Lost_any R (p + 2) u84 RD84.out (by omega)).mono ?_
          rintro e u126 ⟨ls, al, cl, p9, rfl, hll, bl126, r126, _, g126⟩
          have RD126 := Lib.hid r126
          have GR126 := Lib.hid (grown_trans GR84.out g126)
          have LO126 := Lib.hid bl126
          have HLL := Lib.hid hll
          have C7126 := Lib.hid (C784.out.grown g126)
          clear r126 g126 bl126 hll
          go_simp
          refine hK _ _ ?_
          clear hK K
          refine wpAny_take (i := 14) (v := ?v127) rfl (by kernel_rfl) (by kernel_rfl) (by kernel_rfl) (fun _ _ _ h => h) (Or.inl ⟨by kernel_rfl, ?h127⟩) ?_
          case h127 => intro w; go_simp; try with_reducible rfl
          go_simp
          refine wpAny_ready (rs := [4, 9]) (by kernel_rfl) (by simp) (AllReady.cons rfl (fun K hK => ?_) (AllReady.cons rfl (fun K hK => ?_) AllReady.nil))
          · skip
            go_simp
            refine hK _ _ ?_
            clear hK K
            have RD128 := Lib.hid (RD126.out.alloc (.cells #[.int .i64 (1 + v1), .int .i64 0, .int .i64 9] 3))
            have GR128 := Lib.hid (grown_alloc GR126.out (.cells #[.int .i64 (1 + v1), .int .i64 0, .int .i64 9] 3))
            have C7128 := Lib.hid (C7126.out.alloc (.cells #[.int .i64 (1 + v1), .int .i64 0, .int .i64 9] 3))
            have LO128 := Lib.hid (LO126.out.next (alloc_belowX u126 (.cells #[.int .i64 (1 + v1), .int .i64 0, .int .i64 9] 3)))
            have C3128 := Lib.hid (lit3_new (R := R) (W := u126) (v := 1 + v1) RD126.out.lt)
            generalize u126.alloc (.cells #[.int .i64 (1 + v1), .int .i64 0, .int .i64 9] 3) = u128 at RD128 GR128 C7128 LO128 C3128 ⊢
            refine wpAny_ready (rs := [9]) (by kernel_rfl) (by simp) (AllReady.cons rfl (fun K hK => ?_) AllReady.nil)
            go_simp
            obtain ⟨i6, hi6, hc6⟩ := C7128.out.get hk6
            have hi6' : (i6 : Int) < 3 := by omega
            go_simp
            refine hK _ _ ?_
            clear hK K hc6
            refine wpAny_take (i := 10) (v := ?v130) rfl (by kernel_rfl) (by kernel_rfl) (by kernel_rfl) (fun _ _ _ h => h) (Or.inl ⟨by kernel_rfl, ?h130⟩) ?_
            case h130 => intro w; go_simp; try with_reducible rfl
            go_simp
            refine wpAny_ready (rs := [11]) (by kernel_rfl) (by simp) (AllReady.cons rfl (fun K hK => ?_) AllReady.nil)
            go_simp
            obtain ⟨y, hy⟩ := C3128.out.get hi6
            go_simp
            refine hK _ _ ?_
            clear hK K hy
            refine wpAny_take (i := 15) (v := ?v132) rfl (by kernel_rfl) (by kernel_rfl) (by kernel_rfl) (fun _ _ _ h => h) (Or.inl ⟨by kernel_rfl, ?h132⟩) ?_
            case h132 => intro w; go_simp; try with_reducible rfl
            go_simp
            refine wpAny_take (i := 16) (v := ?v133) rfl (by kernel_rfl) (by kernel_rfl) (by kernel_rfl) (fun _ _ _ h => h) (Or.inl ⟨by kernel_rfl, ?h133⟩) ?_
            case h133 => intro w; go_simp; try with_reducible rfl
            go_simp
            refine wpAny_done (by kernel_rfl) ?_ _
            go_wp2
            go_ret3
            exact ⟨n, y, ls, al, cl, rfl, HLL.out, LO128.out, GR128.out⟩
          · skip
            go_simp
            obtain ⟨i6, hi6, hc6⟩ := C7126.out.get hk6
            have hi6' : (i6 : Int) < 3 := by omega
            go_simp
            refine hK _ _ ?_
            clear hK K hc6
            refine wpAny_ready (rs := [4]) (by kernel_rfl) (by simp) (AllReady.cons rfl (fun K hK => ?_) AllReady.nil)
            go_simp
            refine hK _ _ ?_
            clear hK K
            have RD135 := Lib.hid (RD126.out.alloc (.cells #[.int .i64 (1 + v1), .int .i64 0, .int .i64 9] 3))
            have GR135 := Lib.hid (grown_alloc GR126.out (.cells #[.int .i64 (1 + v1), .int .i64 0, .int .i64 9] 3))
            have C7135 := Lib.hid (C7126.out.alloc (.cells #[.int .i64 (1 + v1), .int .i64 0, .int .i64 9] 3))
            have LO135 := Lib.hid (LO126.out.next (alloc_belowX u126 (.cells #[.int .i64 (1 + v1), .int .i64 0, .int .i64 9] 3)))
            have C3135 := Lib.hid (lit3_new (R := R) (W := u126) (v := 1 + v1) RD126.out.lt)
            generalize u126.alloc (.cells #[.int .i64 (1 + v1), .int .i64 0, .int .i64 9] 3) = u135 at RD135 GR135 C7135 LO135 C3135 ⊢
            refine wpAny_take (i := 10) (v := ?v136) rfl (by kernel_rfl) (by kernel_rfl) (by kernel_rfl) (fun _ _ _ h => h) (Or.inl ⟨by kernel_rfl, ?h136⟩) ?_
            case h136 => intro w; go_simp; try with_reducible rfl
            go_simp
            refine wpAny_ready (rs := [11]) (by kernel_rfl) (by simp) (AllReady.cons rfl (fun K hK => ?_) AllReady.nil)
            go_simp
            obtain ⟨y, hy⟩ := C3135.out.get hi6
            go_simp
            refine hK _ _ ?_
            clear hK K hy
            refine wpAny_take (i := 15) (v := ?v138) rfl (by kernel_rfl) (by kernel_rfl) (by kernel_rfl) (fun _ _ _ h => h) (Or.inl ⟨by kernel_rfl, ?h138⟩) ?_
            case h138 => intro w; go_simp; try with_reducible rfl
            go_simp
            refine wpAny_take (i := 16) (v := ?v139) rfl (by kernel_rfl) (by kernel_rfl) (by kernel_rfl) (fun _ _ _ h => h) (Or.inl ⟨by kernel_rfl, ?h139⟩) ?_
            case h139 => intro w; go_simp; try with_reducible rfl
            go_simp
            refine wpAny_done (by kernel_rfl) ?_ _
            go_wp2
            go_ret3
            exact ⟨n, y, ls, al, cl, rfl, HLL.out, LO135.out, GR135.out⟩
    · skip
      go_simp
      refine (pick_any R (p + 1) 7 u5 RD5.out (by omega) (by omega) (by omega)).mono ?_
      rintro e u140 ⟨x140, ⟨hx140, hy140⟩, rfl, r140, g140⟩
      have RD140 := Lib.hid r140
      have GR140 := Lib.hid (grown_trans GR5.out g140)
      clear r140 g140
      go_simp
      refine hK _ _ ?_
      clear hK K
      obtain ⟨k6, rfl⟩ := Int.eq_ofNat_of_zero_le hx140
      have hk6 : k6 < 7 := by omega
      have hk6' : (k6 : Int) < 7 := by omega
      clear hx140 hy140
      refine wpAny_ready (rs := [4, 5, 13]) (by kernel_rfl) (by simp) (AllReady.cons rfl (fun K hK => ?_) (AllReady.cons rfl (fun K hK => ?_) (AllReady.cons rfl (fun K hK => ?_) AllReady.nil)))
      · skip
        go_simp
        refine hK _ _ ?_
        clear hK K
        have RD141 := Lib.hid (RD140.out.alloc (.cells #[.int .i64 (1 + v1), .int .i64 0, .int .i64 9] 3))
        have GR141 := Lib.hid (grown_alloc GR140.out (.cells #[.int .i64 (1 + v1), .int .i64 0, .int .i64 9] 3))
        have C3141 := Lib.hid (lit3_new (R := R) (W := u140) (v := 1 + v1) RD140.out.lt)
        generalize u140.alloc (.cells #[.int .i64 (1 + v1), .int .i64 0, .int .i64 9] 3) = u141 at RD141 GR141 C3141 ⊢
        refine wpAny_ready (rs := [5, 13]) (by kernel_rfl) (by simp) (AllReady.cons rfl (fun K hK => ?_) (AllReady.cons rfl (fun K hK => ?_) AllReady.nil))
        · skip
          go_simp
          refine hK _ _ ?_
          clear hK K
          have RD142 := Lib.hid (RD141.out.alloc (.cells #[.int .i64 0, .int .i64 0, .int .i64 0, .int .i64 0, .int .i64 0, .int .i64 1, .int .i64 2] 3))
          have GR142 := Lib.hid (grown_alloc GR141.out (.cells #[.int .i64 0, .int .i64 0, .int .i64 0, .int .i64 0, .int .i64 0, .int .i64 1, .int .i64 2] 3))
          have C3142 := Lib.hid (C3141.out.alloc (.cells #[.int .i64 0, .int .i64 0, .int .i64 0, .int .i64 0, .int .i64 0, .int .i64 1, .int .i64 2] 3))
          have C7142 := Lib.hid (lit7_new (R := R) (W := u141) RD141.out.lt)
          generalize u141.alloc (.cells #[.int .i64 0, .int .i64 0, .int .i64 0, .int .i64 0, .int .i64 0, .int .i64 1, .int .i64 2] 3) = u142 at RD142 GR142 C3142 C7142 ⊢
          refine wpAny_take (i := 8) (v := ?v143) rfl (by kernel_rfl) (by kernel_rfl) (by kernel_rfl) (fun _ _ _ h => h) (Or.inl ⟨by kernel_rfl, ?h143⟩) ?_
          case h143 => intro w; go_simp; try with_reducible rfl
          go_simp
          refine wpAny_ready (rs := [9, 13]) (by kernel_rfl) (by simp) (AllReady.cons rfl (fun K hK => ?_) (AllReady.cons rfl (fun K hK => ?_) AllReady.nil))
          · skip
            go_simp
            obtain ⟨i6, hi6, hc6⟩ := C7142.out.get hk6
            have hi6' : (i6 : Int) < 3 := by omega
            go_simp
            refine hK _ _ ?_
            clear hK K hc6
            refine wpAny_take (i := 10) (v := ?v145) rfl (by kernel_rfl) (by kernel_rfl) (by kernel_rfl) (fun _ _ _ h => h) (Or.inl ⟨by kernel_rfl, ?h145⟩) ?_
            case h145 => intro w; go_simp; try with_reducible rfl
            go_simp
            refine wpAny_ready (rs := [11, 13]) (by kernel_rfl) (by simp) (AllReady.cons rfl (fun K hK => ?_) (AllReady.cons rfl (fun K hK => ?_) AllReady.nil))
            · skip
              go_simp
              obtain ⟨y, hy⟩ := C3142.out.get hi6
              go_simp
              refine hK _ _ ?_
              clear hK K hy
              refine wpAny_ready (rs := [13]) (by kernel_rfl) (by simp) (AllReady.cons rfl (fun K hK => ?_) AllReady.nil)
              go_simp
              refine (l20Lost_any R (p + 2) u142 RD142.out (by omega)).mono ?_
              rintro e u147 ⟨ls, al, cl, p9, rfl, hll, bl147, r147, _, g147⟩
              have RD147 := Lib.hid r147
              have GR147 := Lib.hid (grown_trans GR142.out g147)
              have LO147 := Lib.hid bl147
              have HLL := Lib.hid hll
              have C7147 := Lib.hid (C7142.out.grown g147)
              have C3147 := Lib.hid (C3142.out.grown g147)
              clear r147 g147 bl147 hll
              go_simp
              refine hK _ _ ?_
              clear hK K
              refine wpAny_take (i := 14) (v := ?v148) rfl (by kernel_rfl) (by kernel_rfl) (by kernel_rfl) (fun _ _ _ h => h) (Or.inl ⟨by kernel_rfl, ?h148⟩) ?_
              case h148 => intro w; go_simp; try with_reducible rfl
              go_simp
              refine wpAny_take (i := 15) (v := ?v149) rfl (by kernel_rfl) (by kernel_rfl) (by kernel_rfl) (fun _ _ _ h => h) (Or.inl ⟨by kernel_rfl, ?h149⟩) ?_
              case h149 => intro w; go_simp; try with_reducible rfl
              go_simp
              refine wpAny_take (i := 16) (v := ?v150) rfl (by kernel_rfl) (by kernel_rfl) (by kernel_rfl) (fun _ _ _ h => h) (Or.inl ⟨by kernel_rfl, ?h150⟩) ?_
              case h150 => intro w; go_simp; try with_reducible rfl
              go_simp
              refine wpAny_done (by kernel_rfl) ?_ _
              go_wp2
              go_ret3
              exact ⟨n, y, ls, al, cl, rfl, HLL.out, LO147.out, GR147.out⟩
            · skip
              go_simp
              refine (l20Lost_any R (p + 2) u142 RD142.out (by omega)).mono ?_
              rintro e u151 ⟨ls, al, cl, p9, rfl, hll, bl151, r151, _, g151⟩
              have RD151 := Lib.hid r151
              have GR151 := Lib.hid (grown_trans GR142.out g151)
              have LO151 := Lib.hid bl151
              have HLL := Lib.hid hll
              have C7151 := Lib.hid (C7142.out.grown g151)
              have C3151 := Lib.hid (C3142.out.grown g151)
              clear r151 g151 bl151 hll
              go_simp
              refine hK _ _ ?_
              clear hK K
              refine wpAny_take (i := 14) (v := ?v152) rfl (by kernel_rfl) (by kernel_rfl) (by kernel_rfl) (fun _ _ _ h => h) (Or.inl ⟨by kernel_rfl, ?h152⟩) ?_
              case h152 => intro w; go_simp; try with_reducible rfl
              go_simp
              refine wpAny_ready (rs := [11]) (by kernel_rfl) (by simp) (AllReady.cons rfl (fun K hK => ?_) AllReady.nil)
              go_simp
              obtain ⟨y, hy⟩ := C3151.out.get hi6
              go_simp
              refine hK _ _ ?_
              clear hK K hy
              refine wpAny_take (i := 15) (v := ?v154) rfl (by kernel_rfl) (by kernel_rfl) (by kernel_rfl) (fun _ _ _ h => h) (Or.inl ⟨by kernel_rfl, ?h154⟩) ?_
              case h154 => intro w; go_simp; try with_reducible rfl
              go_simp
              refine wpAny_take (i := 16) (v := ?v155) rfl (by kernel_rfl) (by kernel_rfl) (by kernel_rfl) (fun _ _ _ h => h) (Or.inl ⟨by kernel_rfl, ?h155⟩) ?_
              case h155 => intro w; go_simp; try with_reducible rfl
              go_simp
              refine wpAny_done (by kernel_rfl) ?_ _
              go_wp2
              go_ret3
              exact ⟨n, y, ls, al, cl, rfl, HLL.out, LO151.out, GR151.out⟩
          · skip
            go_simp
            refine (l20Lost_any R (p + 2) u142 RD142.out (by omega)).mono ?_
            rintro e u156 ⟨ls, al, cl, p9, rfl, hll, bl156, r156, _, g156⟩
            have RD156 := Lib.hid r156
            have GR156 := Lib.hid (grown_trans GR142.out g156)
            have LO156 := Lib.hid bl156
            have HLL := Lib.hid hll
            have C7156 := Lib.hid (C7142.out.grown g156)
            have C3156 := Lib.hid (C3142.out.grown g156)
            clear r156 g156 bl156 hll
            go_simp
            refine hK _ _ ?_
            clear hK K
            refine wpAny_take (i := 14) (v := ?v157) rfl (by kernel_rfl) (by kernel_rfl) (by kernel_rfl) (fun _ _ _ h => h) (Or.inl ⟨by kernel_rfl, ?h157⟩) ?_
            case h157 => intro w; go_simp; try with_reducible rfl
            go_simp
            refine wpAny_ready (rs := [9]) (by kernel_rfl) (by simp) (AllReady.cons rfl (fun K hK => ?_) AllReady.nil)
            go_simp
            obtain ⟨i6, hi6, hc6⟩ := C7156.out.get hk6
            have hi6' : (i6 : Int) < 3 := by omega
            go_simp
            refine hK _ _ ?_
            clear hK K hc6
            refine wpAny_take (i := 10) (v := ?v159) rfl (by kernel_rfl) (by kernel_rfl) (by kernel_rfl) (fun _ _ _ h => h) (Or.inl ⟨by kernel_rfl, ?h159⟩) ?_
            case h159 => intro w; go_simp; try with_reducible rfl
            go_simp
            refine wpAny_ready (rs := [11]) (by kernel_rfl) (by simp) (AllReady.cons rfl (fun K hK => ?_) AllReady.nil)
            go_simp
            obtain ⟨y, hy⟩ := C3156.out.get hi6
            go_simp
            refine hK _ _ ?_
            clear hK K hy
            refine wpAny_take (i := 15) (v := ?v161) rfl (by kernel_rfl) (by kernel_rfl) (by kernel_rfl) (fun _ _ _ h => h) (Or.inl ⟨by kernel_rfl, ?h161⟩) ?_
            case h161 => intro w; go_simp; try with_reducible rfl
            go_simp
            refine wpAny_take (i := 16) (v := ?v162) rfl (by kernel_rfl) (by kernel_rfl) (by kernel_rfl) (fun _ _ _ h => h) (Or.inl ⟨by kernel_rfl, ?h162⟩) ?_
            case h162 => intro w; go_simp; try with_reducible rfl
            go_simp
            refine wpAny_done (by kernel_rfl) ?_ _
            go_wp2
            go_ret3
            exact ⟨n, y, ls, al, cl, rfl, HLL.out, LO156.out, GR156.out⟩
        · skip
          go_simp
          refine (l20Lost_any R (p + 2) u141 RD141.out (by omega)).mono ?_
          rintro e u163 ⟨ls, al, cl, p9, rfl, hll, bl163, r163, _, g163⟩
          have RD163 := Lib.hid r163
          have GR163 := Lib.hid (grown_trans GR141.out g163)
          have LO163 := Lib.hid bl163
          have HLL := Lib.hid hll
          have C3163 := Lib.hid (C3141.out.grown g163)
          clear r163 g163 bl163 hll
          go_simp
          refine hK _ _ ?_
          clear hK K
          refine wpAny_take (i := 14) (v := ?v164) rfl (by kernel_rfl) (by kernel_rfl) (by kernel_rfl) (fun _ _ _ h => h) (Or.inl ⟨by kernel_rfl, ?h164⟩) ?_
          case h164 => intro w; go_simp; try with_reducible rfl
          go_simp
          refine wpAny_ready (rs := [5]) (by kernel_rfl) (by simp) (AllReady.cons rfl (fun K hK => ?_) AllReady.nil)
          go_simp
          refine hK _ _ ?_
          clear hK K
          have RD165 := Lib.hid (RD163.out.alloc (.cells #[.int .i64 0, .int .i64 0, .int .i64 0, .int .i64 0, .int .i64 0, .int .i64 1, .int .i64 2] 3))
          have GR165 := Lib.hid (grown_alloc GR163.out (.cells #[.int .i64 0, .int .i64 0, .int .i64 0, .int .i64 0, .int .i64 0, .int .i64 1, .int .i64 2] 3))
          have C3165 := Lib.hid (C3163.out.alloc (.cells #[.int .i64 0, .int .i64 0, .int .i64 0, .int .i64 0, .int .i64 0, .int .i64 1, .int .i64 2] 3))
          have LO165 := Lib.hid (LO163.out.next (alloc_belowX u163 (.cells #[.int .i64 0, .int .i64 0, .int .i64 0, .int .i64 0, .int .i64 0, .int .i64 1, .int .i64 2] 3)))
          have C7165 := Lib.hid (lit7_new (R := R) (W := u163) RD163.out.lt)
          generalize u163.alloc (.cells #[.int .i64 0, .int .i64 0, .int .i64 0, .int .i64 0, .int .i64 0, .int .i64 1, .int .i64 2] 3) = u165 at RD165 GR165 C3165 LO165 C7165 ⊢
          refine wpAny_take (i := 8) (v := ?v166) rfl (by kernel_rfl) (by kernel_rfl) (by kernel_rfl) (fun _ _ _ h => h) (Or.inl ⟨by kernel_rfl, ?h166⟩) ?_
          case h166 => intro w; go_simp; try with_reducible rfl
          go_simp
          refine wpAny_ready (rs := [9]) (by kernel_rfl) (by simp) (AllReady.cons rfl (fun K hK => ?_) AllReady.nil)
          go_simp
          obtain ⟨i6, hi6, hc6⟩ := C7165.out.get hk6
          have hi6' : (i6 : Int) < 3 := by omega
          go_simp
          refine hK _ _ ?_
          clear hK K hc6
          refine wpAny_take (i := 10) (v := ?v168) rfl (by kernel_rfl) (by kernel_rfl) (by kernel_rfl) (fun _ _ _ h => h) (Or.inl ⟨by kernel_rfl, ?h168⟩) ?_
          case h168 => intro w; go_simp; try with_reducible rfl
          go_simp
          refine wpAny_ready (rs := [11]) (by kernel_rfl) (by simp) (AllReady.cons rfl (fun K hK => ?_) AllReady.nil)
          go_simp
          obtain ⟨y, hy⟩ := C3165.out.get hi6
          go_simp
          refine hK _ _ ?_
          clear hK K hy
          refine wpAny_take (i := 15) (v := ?v170) rfl (by kernel_rfl) (by kernel_rfl) (by kernel_rfl) (fun _ _ _ h => h) (Or.inl ⟨by kernel_rfl, ?h170⟩) ?_
          case h170 => intro w; go_simp; try with_reducible rfl
          go_simp
          refine wpAny_take (i := 16) (v := ?v171) rfl (by kernel_rfl) (by kernel_rfl) (by kernel_rfl) (fun _ _ _ h => h) (Or.inl ⟨by kernel_rfl, ?h171⟩) ?_
          case h171 => intro w; go_simp; try with_reducible rfl
          go_simp
          refine wpAny_done (by kernel_rfl) ?_ _
          go_wp2
          go_ret3
          exact ⟨n, y, ls, al, cl, rfl, HLL.out, LO165.out, GR165.out⟩
      · skip
        go_simp
        refine hK _ _ ?_
        clear hK K
        have RD172 := Lib.hid (RD140.out.alloc (.cells #[.int .i64 0, .int .i64 0, .int .i64 0, .int .i64 0, .int .i64 0, .int .i64 1, .int .i64 2] 3))
        have GR172 := Lib.hid (grown_alloc GR140.out (.cells #[.int .i64 0, .int .i64 0, .int .i64 0, .int .i64 0, .int .i64 0, .int .i64 1, .int .i64 2] 3))
        have C7172 := Lib.hid (lit7_new (R := R) (W := u140) RD140.out.lt)
        generalize u140.alloc (.cells #[.int .i64 0, .int .i64 0, .int .i64 0, .int .i64 0, .int .i64 0, .int .i64 1, .int .i64 2] 3) = u172 at RD172 GR172 C7172 ⊢
        refine wpAny_take (i := 8) (v := ?v173) rfl (by kernel_rfl) (by kernel_rfl) (by kernel_rfl) (fun _ _ _ h => h) (Or.inl ⟨by kernel_rfl, ?h173⟩) ?_
        case h173 => intro w; go_simp; try with_reducible rfl
        go_simp
        refine wpAny_ready (rs := [4, 9, 13]) (by kernel_rfl) (by simp) (AllReady.cons rfl (fun K hK => ?_) (AllReady.cons rfl (fun K hK => ?_) (AllReady.cons rfl (fun K hK => ?_) AllReady.nil)))
        · skip
          go_simp
          refine hK _ _ ?_
          clear hK K
          have RD174 := Lib.hid (RD172.out.alloc (.cells #[.int .i64 (1 + v1), .int .i64 0, .int .i64 9] 3))
          have GR174 := Lib.hid (grown_alloc GR172.out (.cells #[.int .i64 (1 + v1), .int .i64 0, .int .i64 9] 3))
          have C7174 := Lib.hid (C7172.out.alloc (.cells #[.int .i64 (1 + v1), .int .i64 0, .int .i64 9] 3))
          have C3174 := Lib.hid (lit3_new (R := R) (W := u172) (v := 1 + v1) RD172.out.lt)
          generalize u172.alloc (.cells #[.int .i64 (1 + v1), .int .i64 0, .int .i64 9] 3) = u174 at RD174 GR174 C7174 C3174 ⊢
          refine wpAny_ready (rs := [9, 13]) (by kernel_rfl) (by simp) (AllReady.cons rfl (fun K hK => ?_) (AllReady.cons rfl (fun K hK => ?_) AllReady.nil))
          · skip
            go_simp
            obtain ⟨i6, hi6, hc6⟩ := C7174.out.get hk6
            have hi6' : (i6 : Int) < 3 := by omega
            go_simp
            refine hK _ _ ?_
            clear hK K hc6
            refine wpAny_take (i := 10) (v := ?v176) rfl (by kernel_rfl) (by kernel_rfl) (by kernel_rfl) (fun _ _ _ h => h) (Or.inl ⟨by kernel_rfl, ?h176⟩) ?_
            case h176 => intro w; go_simp; try with_reducible rfl
            go_simp
            refine wpAny_ready (rs := [11, 13]) (by kernel_rfl) (by simp) (AllReady.cons rfl (fun K hK => ?_) (AllReady.cons rfl (fun K hK => ?_) AllReady.nil))
            · skip
              go_simp
              obtain ⟨y, hy⟩ := C3174.out.get hi6
              go_simp
              refine hK _ _ ?_
              clear hK K hy
              refine wpAny_ready (rs := [13]) (by kernel_rfl) (by simp) (AllReady.cons rfl (fun K hK => ?_) AllReady.nil)
              go_simp
              refine (l20Lost_any R (p + 2) u174 RD174.out (by omega)).mono ?_
              rintro e u178 ⟨ls, al, cl, p9, rfl, hll, bl178, r178, _, g178⟩
              have RD178 := Lib.hid r178
              have GR178 := Lib.hid (grown_trans GR174.out g178)
              have LO178 := Lib.hid bl178
              have HLL := Lib.hid hll
              have C7178 := Lib.hid (C7174.out.grown g178)
              have C3178 := Lib.hid (C3174.out.grown g178)
              clear r178 g178 bl178 hll
              go_simp
              refine hK _ _ ?_
              clear hK K
              refine wpAny_take (i := 14) (v := ?v179) rfl (by kernel_rfl) (by kernel_rfl) (by kernel_rfl) (fun _ _ _ h => h) (Or.inl ⟨by kernel_rfl, ?h179⟩) ?_
              case h179 => intro w; go_simp; try with_reducible rfl
              go_simp
              refine wpAny_take (i := 15) (v := ?v180) rfl (by kernel_rfl) (by kernel_rfl) (by kernel_rfl) (fun _ _ _ h => h) (Or.inl ⟨by kernel_rfl, ?h180⟩) ?_
              case h180 => intro w; go_simp; try with_reducible rfl
              go_simp
              refine wpAny_take (i := 16) (v := ?v181) rfl (by kernel_rfl) (by kernel_rfl) (by kernel_rfl) (fun _ _ _ h => h) (Or.inl ⟨by kernel_rfl, ?h181⟩) ?_
              case h181 => intro w; go_simp; try with_reducible rfl
              go_simp
              refine wpAny_done (by kernel_rfl) ?_ _
              go_wp2
              go_ret3
              exact ⟨n, y, ls, al, cl, rfl, HLL.out, LO178.out, GR178.out⟩
            · skip
              go_simp
              refine (l20Lost_any R (p + 2) u174 RD174.out (by omega)).mono ?_
              rintro e u182 ⟨ls, al, cl, p9, rfl, hll, bl182, r182, _, g182⟩
              have RD182 := Lib.hid r182
              have GR182 := Lib.hid (grown_trans GR174.out g182)
              have LO182 := Lib.hid bl182
              have HLL := Lib.hid hll
              have C7182 := Lib.hid (C7174.out.grown g182)
              have C3182 := Lib.hid (C3174.out.grown g182)
              clear r182 g182 bl182 hll
              go_simp
              refine hK _ _ ?_
              clear hK K
              refine wpAny_take (i := 14) (v := ?v183) rfl (by kernel_rfl) (by kernel_rfl) (by kernel_rfl) (fun _ _ _ h => h) (Or.inl ⟨by kernel_rfl, ?h183⟩) ?_
              case h183 => intro w; go_simp; try with_reducible rfl
              go_simp
              refine wpAny_ready (rs := [11]) (by kernel_rfl) (by simp) (AllReady.cons rfl (fun K hK => ?_) AllReady.nil)
              go_simp
              obtain ⟨y, hy⟩ := C3182.out.get hi6
              go_simp
              refine hK _ _ ?_
              clear hK K hy
              refine wpAny_take (i := 15) (v := ?v185) rfl (by kernel_rfl) (by kernel_rfl) (by kernel_rfl) (fun _ _ _ h => h) (Or.inl ⟨by kernel_rfl, ?h185⟩) ?_
              case h185 => intro w; go_simp; try with_reducible rfl
              go_simp
              refine wpAny_take (i := 16) (v := ?v186) rfl (by kernel_rfl) (by kernel_rfl) (by kernel_rfl) (fun _ _ _ h => h) (Or.inl ⟨by kernel_rfl, ?h186⟩) ?_
              case h186 => intro w; go_simp; try with_reducible rfl
              go_simp
              refine wpAny_done (by kernel_rfl) ?_ _
              go_wp2
              go_ret3
              exact ⟨n, y, ls, al, cl, rfl, HLL.out, LO182.out, GR182.out⟩
          · skip
            go_simp
            refine (l20Lost_any R (p + 2) u174 RD174.out (by omega)).mono ?_
            rintro e u187 ⟨ls, al, cl, p9, rfl, hll, bl187, r187, _, g187⟩
            have RD187 := Lib.hid r187
            have GR187 := Lib.hid (grown_trans GR174.out g187)
            have LO187 := Lib.hid bl187
            have HLL := Lib.hid hll
            have C7187 := Lib.hid (C7174.out.grown g187)
            have C3187 := Lib.hid (C3174.out.grown g187)
            clear r187 g187 bl187 hll
            go_simp
            refine hK _ _ ?_
            clear hK K
            refine wpAny_take (i := 14) (v := ?v188) rfl (by kernel_rfl) (by kernel_rfl) (by kernel_rfl) (fun _ _ _ h => h) (Or.inl ⟨by kernel_rfl, ?h188⟩) ?_
            case h188 => intro w; go_simp; try with_reducible rfl
            go_simp
            refine wpAny_ready (rs := [9]) (by kernel_rfl) (by simp) (AllReady.cons rfl (fun K hK => ?_) AllReady.nil)
            go_simp
            obtain ⟨i6, hi6, hc6⟩ := C7187.out.get hk6
            have hi6' : (i6 : Int) < 3 := by omega
            go_simp
            refine hK _ _ ?_
            clear hK K hc6
            refine wpAny_take (i := 10) (v := ?v190) rfl (by kernel_rfl) (by kernel_rfl) (by kernel_rfl) (fun _ _ _ h => h) (Or.inl ⟨by kernel_rfl, ?h190⟩) ?_
            case h190 => intro w; go_simp; try with_reducible rfl
            go_simp
            refine wpAny_ready (rs := [11]) (by kernel_rfl) (by simp) (AllReady.cons rfl (fun K hK => ?_) AllReady.nil)
            go_simp
            obtain ⟨y, hy⟩ := C3187.out.get hi6
            go_simp
            refine hK _ _ ?_
            clear hK K hy
            refine wpAny_take (i := 15) (v := ?v192) rfl (by kernel_rfl) (by kernel_rfl) (by kernel_rfl) (fun _ _ _ h => h) (Or.inl ⟨by kernel_rfl, ?h192⟩) ?_
            case h192 => intro w; go_simp; try with_reducible rfl
            go_simp
            refine wpAny_take (i := 16) (v := ?v193) rfl (by kernel_rfl) (by kernel_rfl) (by kernel_rfl) (fun _ _ _ h => h) (Or.inl ⟨by kernel_rfl, ?h193⟩) ?_
            case h193 => intro w; go_simp; try with_reducible rfl
            go_simp
            refine wpAny_done (by kernel_rfl) ?_ _
            go_wp2
            go_ret3
            exact ⟨n, y, ls, al, cl, rfl, HLL.out, LO187.out, GR187.out⟩
        · skip
          go_simp
          obtain ⟨i6, hi6, hc6⟩ := C7172.out.get hk6
          have hi6' : (i6 : Int) < 3 := by omega
          go_simp
          refine hK _ _ ?_
          clear hK K hc6
          refine wpAny_ready (rs := [4, 13]) (by kernel_rfl) (by simp) (AllReady.cons rfl (fun K hK => ?_) (AllReady.cons rfl (fun K hK => ?_) AllReady.nil))
          · skip
            go_simp
            refine hK _ _ ?_
            clear hK K
            have RD195 := Lib.hid (RD172.out.alloc (.cells #[.int .i64 (1 + v1), .int .i64 0, .int .i64 9] 3))
            have GR195 := Lib.hid (grown_alloc GR172.out (.cells #[.int .i64 (1 + v1), .int .i64 0, .int .i64 9] 3))
            have C7195 := Lib.hid (C7172.out.alloc (.cells #[.int .i64 (1 + v1), .int .i64 0, .int .i64 9] 3))
            have C3195 := Lib.hid (lit3_new (R := R) (W := u172) (v := 1 + v1) RD172.out.lt)
            generalize u172.alloc (.cells #[.int .i64 (1 + v1), .int .i64 0, .int .i64 9] 3) = u195 at RD195 GR195 C7195 C3195 ⊢
            refine wpAny_take (i := 10) (v := ?v196) rfl (by kernel_rfl) (by kernel_rfl) (by kernel_rfl) (fun _ _ _ h => h) (Or.inl ⟨by kernel_rfl, ?h196⟩) ?_
            case h196 => intro w; go_simp; try with_reducible rfl
            go_simp
            refine wpAny_ready (rs := [11, 13]) (by kernel_rfl) (by simp) (AllReady.cons rfl (fun K hK => ?_) (AllReady.cons rfl (fun K hK => ?_) AllReady.nil))
            · skip
              go_simp
              obtain ⟨y, hy⟩ := C3195.out.get hi6
              go_simp
              refine hK _ _ ?_
              clear hK K hy
              refine wpAny_ready (rs := [13]) (by kernel_rfl) (by simp) (AllReady.cons rfl (fun K hK => ?_) AllReady.nil)
              go_simp
              refine (l20Lost_any R (p + 2) u195 RD195.out (by omega)).mono ?_
              rintro e u198 ⟨ls, al, cl, p9, rfl, hll, bl198, r198, _, g198⟩
              have RD198 := Lib.hid r198
              have GR198 := Lib.hid (grown_trans GR195.out g198)
              have LO198 := Lib.hid bl198
              have HLL := Lib.hid hll
              have C7198 := Lib.hid (C7195.out.grown g198)
              have C3198 := Lib.hid (C3195.out.grown g198)
              clear r198 g198 bl198 hll
              go_simp
              refine hK _ _ ?_
              clear hK K
              refine wpAny_take (i := 14) (v := ?v199) rfl (by kernel_rfl) (by kernel_rfl) (by kernel_rfl) (fun _ _ _ h => h) (Or.inl ⟨by kernel_rfl, ?h199⟩) ?_
              case h199 => intro w; go_simp; try with_reducible rfl
              go_simp
              refine wpAny_take (i := 15) (v := ?v200) rfl (by kernel_rfl) (by kernel_rfl) (by kernel_rfl) (fun _ _ _ h => h) (Or.inl ⟨by kernel_rfl, ?h200⟩) ?_
              case h200 => intro w; go_simp; try with_reducible rfl
              go_simp
              refine wpAny_take (i := 16) (v := ?v201) rfl (by kernel_rfl) (by kernel_rfl) (by kernel_rfl) (fun _ _ _ h => h) (Or.inl ⟨by kernel_rfl, ?h201⟩) ?_
              case h201 => intro w; go_simp; try with_reducible rfl
              go_simp
              refine wpAny_done (by kernel_rfl) ?_ _
              go_wp2
              go_ret3
              exact ⟨n, y, ls, al, cl, rfl, HLL.out, LO198.out, GR198.out⟩
            · skip
              go_simp
              refine (l20Lost_any R (p + 2) u195 RD195.out (by omega)).mono ?_
              rintro e u202 ⟨ls, al, cl, p9, rfl, hll, bl202, r202, _, g202⟩
              have RD202 := Lib.hid r202
              have GR202 := Lib.hid (grown_trans GR195.out g202)
              have LO202 := Lib.hid bl202
              have HLL := Lib.hid hll
              have C7202 := Lib.hid (C7195.out.grown g202)
              have C3202 := Lib.hid (C3195.out.grown g202)
              clear r202 g202 bl202 hll
              go_simp
              refine hK _ _ ?_
              clear hK K
              refine wpAny_take (i := 14) (v := ?v203) rfl (by kernel_rfl) (by kernel_rfl) (by kernel_rfl) (fun _ _ _ h => h) (Or.inl ⟨by kernel_rfl, ?h203⟩) ?_
              case h203 => intro w; go_simp; try with_reducible rfl
              go_simp
              refine wpAny_ready (rs := [11]) (by kernel_rfl) (by simp) (AllReady.cons rfl (fun K hK => ?_) AllReady.nil)
              go_simp
              obtain ⟨y, hy⟩ := C3202.out.get hi6
              go_simp
              refine hK _ _ ?_
              clear hK K hy
              refine wpAny_take (i := 15) (v := ?v205) rfl (by kernel_rfl) (by kernel_rfl) (by kernel_rfl) (fun _ _ _ h => h) (Or.inl ⟨by kernel_rfl, ?h205⟩) ?_
              case h205 => intro w; go_simp; try with_reducible rfl
              go_simp
              refine wpAny_take (i := 16) (v := ?v206) rfl (by kernel_rfl) (by kernel_rfl) (by kernel_rfl) (fun _ _ _ h => h) (Or.inl ⟨by kernel_rfl, ?h206⟩) ?_
              case h206 => intro w; go_simp; try with_reducible rfl
              go_simp
              refine wpAny_done (by kernel_rfl) ?_ _
              go_wp2
              go_ret3
              exact ⟨n, y, ls, al, cl, rfl, HLL.out, LO202.out, GR202.out⟩
          · skip
            go_simp
            refine (l20Lost_any R (p + 2) u172 RD172.out (by omega)).mono ?_
            rintro e u207 ⟨ls, al, cl, p9, rfl, hll, bl207, r207, _, g207⟩
            have RD207 := Lib.hid r207
            have GR207 := Lib.hid (grown_trans GR172.out g207)
            have LO207 := Lib.hid bl207
            have HLL := Lib.hid hll
            have C7207 := Lib.hid (C7172.out.grown g207)
            clear r207 g207 bl207 hll
            go_simp
            refine hK _ _ ?_
            clear hK K
            refine wpAny_take (i := 14) (v := ?v208) rfl (by kernel_rfl) (by kernel_rfl) (by kernel_rfl) (fun _ _ _ h => h) (Or.inl ⟨by kernel_rfl, ?h208⟩) ?_
            case h208 => intro w; go_simp; try with_reducible rfl
            go_simp
            refine wpAny_ready (rs := [4]) (by kernel_rfl) (by simp) (AllReady.cons rfl (fun K hK => ?_) AllReady.nil)
            go_simp
            refine hK _ _ ?_
            clear hK K
            have RD209 := Lib.hid (RD207.out.alloc (.cells #[.int .i64 (1 + v1), .int .i64 0, .int .i64 9] 3))
            have GR209 := Lib.hid (grown_alloc GR207.out (.cells #[.int .i64 (1 + v1), .int .i64 0, .int .i64 9] 3))
            have C7209 := Lib.hid (C7207.out.alloc (.cells #[.int .i64 (1 + v1), .int .i64 0, .int .i64 9] 3))
            have LO209 := Lib.hid (LO207.out.next (alloc_belowX u207 (.cells #[.int .i64 (1 + v1), .int .i64 0, .int .i64 9] 3)))
            have C3209 := Lib.hid (lit3_new (R := R) (W := u207) (v := 1 + v1) RD207.out.lt)
            generalize u207.alloc (.cells #[.int .i64 (1 + v1), .int .i64 0, .int .i64 9] 3) = u209 at RD209 GR209 C7209 LO209 C3209 ⊢
            refine wpAny_take (i := 10) (v := ?v210) rfl (by kernel_rfl) (by kernel_rfl) (by kernel_rfl) (fun _ _ _ h => h) (Or.inl ⟨by kernel_rfl, ?h210⟩) ?_
            case h210 => intro w; go_simp; try with_reducible rfl
            go_simp
            refine wpAny_ready (rs := [11]) (by kernel_rfl) (by simp) (AllReady.cons rfl (fun K hK => ?_) AllReady.nil)
            go_simp
            obtain ⟨y, hy⟩ := C3209.out.get hi6
            go_simp
            refine hK _ _ ?_
            clear hK K hy
            refine wpAny_take (i := 15) (v := ?v212) rfl (by kernel_rfl) (by kernel_rfl) (by kernel_rfl) (fun _ _ _ h => h) (Or.inl ⟨by kernel_rfl, ?h212⟩) ?_
            case h212 => intro w; go_simp; try with_reducible rfl
            go_simp
            refine wpAny_take (i := 16) (v := ?v213) rfl (by kernel_rfl) (by kernel_rfl) (by kernel_rfl) (fun _ _ _ h => h) (Or.inl ⟨by kernel_rfl, ?h213⟩) ?_
            case h213 => intro w; go_simp; try with_reducible rfl
            go_simp
            refine wpAny_done (by kernel_rfl) ?_ _
            go_wp2
            go_ret3
            exact ⟨n, y, ls, al, cl, rfl, HLL.out, LO209.out, GR209.out⟩
        · skip
          go_simp
          refine (l20Lost_any R (p + 2) u172 RD172.out (by omega)).mono ?_
          rintro e u214 ⟨ls, al, cl, p9, rfl, hll, bl214, r214, _, g214⟩
          have RD214 := Lib.hid r214
          have GR214 := Lib.hid (grown_trans GR172.out g214)
          have LO214 := Lib.hid bl214
          have HLL := Lib.hid hll
          have C7214 := Lib.hid (C7172.out.grown g214)
          clear r214 g214 bl214 hll
          go_simp
          refine hK _ _ ?_
          clear hK K
          refine wpAny_take (i := 14) (v := ?v215) rfl (by kernel_rfl) (by kernel_rfl) (by kernel_rfl) (fun _ _ _ h => h) (Or.inl ⟨by kernel_rfl, ?h215⟩) ?_
          case h215 => intro w; go_simp; try with_reducible rfl
          go_simp
          refine wpAny_ready (rs := [4, 9]) (by kernel_rfl) (by simp) (AllReady.cons rfl (fun K hK => ?_) (AllReady.cons rfl (fun K hK => ?_) AllReady.nil))
          · skip
            go_simp
            refine hK _ _ ?_
            clear hK K
            have RD216 := Lib.hid (RD214.out.alloc (.cells #[.int .i64 (1 + v1), .int .i64 0, .int .i64 9] 3))
            have GR216 := Lib.hid (grown_alloc GR214.out (.cells #[.int .i64 (1 + v1), .int .i64 0, .int .i64 9] 3))
            have C7216 := Lib.hid (C7214.out.alloc (.cells #[.int .i64 (1 + v1), .int .i64 0, .int .i64 9] 3))
            have LO216 := Lib.hid (LO214.out.next (alloc_belowX u214 (.cells #[.int .i64 (1 + v1), .int .i64 0, .int .i64 9] 3)))
            have C3216 := Lib.hid (lit3_new (R := R) (W := u214) (v := 1 + v1) RD214.out.lt)
            generalize u214.alloc (.cells #[.int .i64 (1 + v1), .int .i64 0, .int .i64 9] 3) = u216 at RD216 GR216 C7216 LO216 C3216 ⊢
            refine wpAny_ready (rs := [9]) (by kernel_rfl) (by simp) (AllReady.cons rfl (fun K hK => ?_) AllReady.nil)
            go_simp
            obtain ⟨i6, hi6, hc6⟩ := C7216.out.get hk6
            have hi6' : (i6 : Int) < 3 := by omega
            go_simp
            refine hK _ _ ?_
            clear hK K hc6
            refine wpAny_take (i := 10) (v := ?v218) rfl (by kernel_rfl) (by kernel_rfl) (by kernel_rfl) (fun _ _ _ h => h) (Or.inl ⟨by kernel_rfl, ?h218⟩) ?_
            case h218 => intro w; go_simp; try with_reducible rfl
            go_simp
            refine wpAny_ready (rs := [11]) (by kernel_rfl) (by simp) (AllReady.cons rfl (fun K hK => ?_) AllReady.nil)
            go_simp
            obtain ⟨y, hy⟩ := C3216.out.get hi6
            go_simp
            refine hK _ _ ?_
            clear hK K hy
            refine wpAny_take (i := 15) (v := ?v220) rfl (by kernel_rfl) (by kernel_rfl) (by kernel_rfl) (fun _ _ _ h => h) (Or.inl ⟨by kernel_rfl, ?h220⟩) ?_
            case h220 => intro w; go_simp; try with_reducible rfl
            go_simp
            refine wpAny_take (i := 16) (v := ?v221) rfl (by kernel_rfl) (by kernel_rfl) (by kernel_rfl) (fun _ _ _ h => h) (Or.inl ⟨by kernel_rfl, ?h221⟩) ?_
            case h221 => intro w; go_simp; try with_reducible rfl
            go_simp
            refine wpAny_done (by kernel_rfl) ?_ _
            go_wp2
            go_ret3
            exact ⟨n, y, ls, al, cl, rfl, HLL.out, LO216.out, GR216.out⟩
          · skip
            go_simp
            obtain ⟨i6, hi6, hc6⟩ := C7214.out.get hk6
            have hi6' : (i6 : Int) < 3 := by omega
            go_simp
            refine hK _ _ ?_
            clear hK K hc6
            refine wpAny_ready (rs := [4]) (by kernel_rfl) (by simp) (AllReady.cons rfl (fun K hK => ?_) AllReady.nil)
            go_simp
            refine hK _ _ ?_
            clear hK K
            have RD223 := Lib.hid (RD214.out.alloc (.cells #[.int .i64 (1 + v1), .int .i64 0, .int .i64 9] 3))
            have GR223 := Lib.hid (grown_alloc GR214.out (.cells #[.int .i64 (1 + v1), .int .i64 0, .int .i64 9] 3))
            have C7223 := Lib.hid (C7214.out.alloc (.cells #[.int .i64 (1 + v1), .int .i64 0, .int .i64 9] 3))
            have LO223 := Lib.hid (LO214.out.next (alloc_belowX u214 (.cells #[.int .i64 (1 + v1), .int .i64 0, .int .i64 9] 3)))
            have C3223 := Lib.hid (lit3_new (R := R) (W := u214) (v := 1 + v1) RD214.out.lt)
            generalize u214.alloc (.cells #[.int .i64 (1 + v1), .int .i64 0, .int .i64 9] 3) = u223 at RD223 GR223 C7223 LO223 C3223 ⊢
            refine wpAny_take (i := 10) (v := ?v224) rfl (by kernel_rfl) (by kernel_rfl) (by kernel_rfl) (fun _ _ _ h => h) (Or.inl ⟨by kernel_rfl, ?h224⟩) ?_
            case h224 => intro w; go_simp; try with_reducible rfl
            go_simp
            refine wpAny_ready (rs := [11]) (by kernel_rfl) (by simp) (AllReady.cons rfl (fun K hK => ?_) AllReady.nil)
            go_simp
            obtain ⟨y, hy⟩ := C3223.out.get hi6
            go_simp
            refine hK _ _ ?_
            clear hK K hy
            refine wpAny_take (i := 15) (v := ?v226) rfl (by kernel_rfl) (by kernel_rfl) (by kernel_rfl) (fun _ _ _ h => h) (Or.inl ⟨by kernel_rfl, ?h226⟩) ?_
            case h226 => intro w; go_simp; try with_reducible rfl
            go_simp
            refine wpAny_take (i := 16) (v := ?v227) rfl (by kernel_rfl) (by kernel_rfl) (by kernel_rfl) (fun _ _ _ h => h) (Or.inl ⟨by kernel_rfl, ?h227⟩) ?_
            case h227 => intro w; go_simp; try with_reducible rfl
            go_simp
            refine wpAny_done (by kernel_rfl) ?_ _
            go_wp2
            go_ret3
            exact ⟨n, y, ls, al, cl, rfl, HLL.out, LO223.out, GR223.out⟩
      · skip
        go_simp
        refine (l20Lost_any R (p + 2) u140 RD140.out (by omega)).mono ?_
        rintro e u228 ⟨ls, al, cl, p9, rfl, hll, bl228, r228, _, g228⟩
        have RD228 := Lib.hid r228
        have GR228 := Lib.hid (grown_trans GR140.out g228)
        have LO228 := Lib.hid bl228
        have HLL := Lib.hid hll
        clear r228 g228 bl228 hll
        go_simp
        refine hK _ _ ?_
        clear hK K
        refine wpAny_take (i := 14) (v := ?v229) rfl (by kernel_rfl) (by kernel_rfl) (by kernel_rfl) (fun _ _ _ h => h) (Or.inl ⟨by kernel_rfl, ?h229⟩) ?_
        case h229 => intro w; go_simp; try with_reducible rfl
        go_simp
        refine wpAny_ready (rs := [4, 5]) (by kernel_rfl) (by simp) (AllReady.cons rfl (fun K hK => ?_) (AllReady.cons rfl (fun K hK => ?_) AllReady.nil))
        · skip
          go_simp
          refine hK _ _ ?_
          clear hK K
          have RD230 := Lib.hid (RD228.out.alloc (.cells #[.int .i64 (1 + v1), .int .i64 0, .int .i64 9] 3))
          have GR230 := Lib.hid (grown_alloc GR228.out (.cells #[.int .i64 (1 + v1), .int .i64 0, .int .i64 9] 3))
          have LO230 := Lib.hid (LO228.out.next (alloc_belowX u228 (.cells #[.int .i64 (1 + v1), .int .i64 0, .int .i64 9] 3)))
          have C3230 := Lib.hid (lit3_new (R := R) (W := u228) (v := 1 + v1) RD228.out.lt)
          generalize u228.alloc (.cells #[.int .i64 (1 + v1), .int .i64 0, .int .i64 9] 3) = u230 at RD230 GR230 LO230 C3230 ⊢
          refine wpAny_ready (rs := [5]) (by kernel_rfl) (by simp) (AllReady.cons rfl (fun K hK => ?_) AllReady.nil)
          go_simp
          refine hK _ _ ?_
          clear hK K
          have RD231 := Lib.hid (RD230.out.alloc (.cells #[.int .i64 0, .int .i64 0, .int .i64 0, .int .i64 0, .int .i64 0, .int .i64 1, .int .i64 2] 3))
          have GR231 := Lib.hid (grown_alloc GR230.out (.cells #[.int .i64 0, .int .i64 0, .int .i64 0, .int .i64 0, .int .i64 0, .int .i64 1, .int .i64 2] 3))
          have C3231 := Lib.hid (C3230.out.alloc (.cells #[.int .i64 0, .int .i64 0, .int .i64 0, .int .i64 0, .int .i64 0, .int .i64 1, .int .i64 2] 3))
          have LO231 := Lib.hid (LO230.out.next (alloc_belowX u230 (.cells #[.int .i64 0, .int .i64 0, .int .i64 0, .int .i64 0, .int .i64 0, .int .i64 1, .int .i64 2] 3)))
          have C7231 := Lib.hid (lit7_new (R := R) (W := u230) RD230.out.lt)
          generalize u230.alloc (.cells #[.int .i64 0, .int .i64 0, .int .i64 0, .int .i64 0, .int .i64 0, .int .i64 1, .int .i64 2] 3) = u231 at RD231 GR231 C3231 LO231 C7231 ⊢
          refine wpAny_take (i := 8) (v := ?v232) rfl (by kernel_rfl) (by kernel_rfl) (by kernel_rfl) (fun _ _ _ h => h) (Or.inl ⟨by kernel_rfl, ?h232⟩) ?_
          case h232 => intro w; go_simp; try with_reducible rfl
          go_simp
          refine wpAny_ready (rs := [9]) (by kernel_rfl) (by simp) (AllReady.cons rfl (fun K hK => ?_) AllReady.nil)
          go_simp
          obtain ⟨i6, hi6, hc6⟩ := C7231.out.get hk6
          have hi6' : (i6 : Int) < 3 := by omega
          go_simp
          refine hK _ _ ?_
          clear hK K hc6
          refine wpAny_take (i := 10) (v := ?v234) rfl (by kernel_rfl) (by kernel_rfl) (by kernel_rfl) (fun _ _ _ h => h) (Or.inl ⟨by kernel_rfl, ?h234⟩) ?_
          case h234 => intro w; go_simp; try with_reducible rfl
          go_simp
          refine wpAny_ready (rs := [11]) (by kernel_rfl) (by simp) (AllReady.cons rfl (fun K hK => ?_) AllReady.nil)
          go_simp
          obtain ⟨y, hy⟩ := C3231.out.get hi6
          go_simp
          refine hK _ _ ?_
          clear hK K hy
          refine wpAny_take (i := 15) (v := ?v236) rfl (by kernel_rfl) (by kernel_rfl) (by kernel_rfl) (fun _ _ _ h => h) (Or.inl ⟨by kernel_rfl, ?h236⟩) ?_
          case h236 => intro w; go_simp; try with_reducible rfl
          go_simp
          refine wpAny_take (i := 16) (v := ?v237) rfl (by kernel_rfl) (by kernel_rfl) (by kernel_rfl) (fun _ _ _ h => h) (Or.inl ⟨by kernel_rfl, ?h237⟩) ?_
          case h237 => intro w; go_simp; try with_reducible rfl
          go_simp
          refine wpAny_done (by kernel_rfl) ?_ _
          go_wp2
          go_ret3
          exact ⟨n, y, ls, al, cl, rfl, HLL.out, LO231.out, GR231.out⟩
        · skip
          go_simp
          refine hK _ _ ?_
          clear hK K
          have RD238 := Lib.hid (RD228.out.alloc (.cells #[.int .i64 0, .int .i64 0, .int .i64 0, .int .i64 0, .int .i64 0, .int .i64 1, .int .i64 2] 3))
          have GR238 := Lib.hid (grown_alloc GR228.out (.cells #[.int .i64 0, .int .i64 0, .int .i64 0, .int .i64 0, .int .i64 0, .int .i64 1, .int .i64 2] 3))
          have LO238 := Lib.hid (LO228.out.next (alloc_belowX u228 (.cells #[.int .i64 0, .int .i64 0, .int .i64 0, .int .i64 0, .int .i64 0, .int .i64 1, .int .i64 2] 3)))
          have C7238 := Lib.hid (lit7_new (R := R) (W := u228) RD228.out.lt)
          generalize u228.alloc (.cells #[.int .i64 0, .int .i64 0, .int .i64 0, .int .i64 0, .int .i64 0, .int .i64 1, .int .i64 2] 3) = u238 at RD238 GR238 LO238 C7238 ⊢
          refine wpAny_take (i := 8) (v := ?v239) rfl (by kernel_rfl) (by kernel_rfl) (by kernel_rfl) (fun _ _ _ h => h) (Or.inl ⟨by kernel_rfl, ?h239⟩) ?_
          case h239 => intro w; go_simp; try with_reducible rfl
          go_simp
          refine wpAny_ready (rs := [4, 9]) (by kernel_rfl) (by simp) (AllReady.cons rfl (fun K hK => ?_) (AllReady.cons rfl (fun K hK => ?_) AllReady.nil))
          · skip
            go_simp
            refine hK _ _ ?_
            clear hK K
            have RD240 := Lib.hid (RD238.out.alloc (.cells #[.int .i64 (1 + v1), .int .i64 0, .int .i64 9] 3))
            have GR240 := Lib.hid (grown_alloc GR238.out (.cells #[.int .i64 (1 + v1), .int .i64 0, .int .i64 9] 3))
            have C7240 := Lib.hid (C7238.out.alloc (.cells #[.int .i64 (1 + v1), .int .i64 0, .int .i64 9] 3))
            have LO240 := Lib.hid (LO238.out.next (alloc_belowX u238 (.cells #[.int .i64 (1 + v1), .int .i64 0, .int .i64 9] 3)))
            have C3240 := Lib.hid (lit3_new (R := R) (W := u238) (v := 1 + v1) RD238.out.lt)
            generalize u238.alloc (.cells #[.int .i64 (1 + v1), .int .i64 0, .int .i64 9] 3) = u240 at RD240 GR240 C7240 LO240 C3240 ⊢
            refine wpAny_ready (rs := [9]) (by kernel_rfl) (by simp) (AllReady.cons rfl (fun K hK => ?_) AllReady.nil)
            go_simp
            obtain ⟨i6, hi6, hc6⟩ := C7240.out.get hk6
            have hi6' : (i6 : Int) < 3 := by omega
            go_simp
            refine hK _ _ ?_
            clear hK K hc6
            refine wpAny_take (i := 10) (v := ?v242) rfl (by kernel_rfl) (by kernel_rfl) (by kernel_rfl) (fun _ _ _ h => h) (Or.inl ⟨by kernel_rfl, ?h242⟩) ?_
            case h242 => intro w; go_simp; try with_reducible rfl
            go_simp
            refine wpAny_ready (rs := [11]) (by kernel_rfl) (by simp) (AllReady.cons rfl (fun K hK => ?_) AllReady.nil)
            go_simp
            obtain ⟨y, hy⟩ := C3240.out.get hi6
            go_simp
            refine hK _ _ ?_
            clear hK K hy
            refine wpAny_take (i := 15) (v := ?v244) rfl (by kernel_rfl) (by kernel_rfl) (by kernel_rfl) (fun _ _ _ h => h) (Or.inl ⟨by kernel_rfl, ?h244⟩) ?_
            case h244 => intro w; go_simp; try with_reducible rfl
            go_simp
            refine wpAny_take (i := 16) (v := ?v245) rfl (by kernel_rfl) (by kernel_rfl) (by kernel_rfl) (fun _ _ _ h => h) (Or.inl ⟨by kernel_rfl, ?h245⟩) ?_
            case h245 => intro w; go_simp; try with_reducible rfl
            go_simp
            refine wpAny_done (by kernel_rfl) ?_ _
            go_wp2
            go_ret3
            exact ⟨n, y, ls, al, cl, rfl, HLL.out, LO240.out, GR240.out⟩
          · skip
            go_simp
            obtain ⟨i6, hi6, hc6⟩ := C7238.out.get hk6
            have hi6' : (i6 : Int) < 3 := by omega
            go_simp
            refine hK _ _ ?_
            clear hK K hc6
            refine wpAny_ready (rs := [4]) (by kernel_rfl) (by simp) (AllReady.cons rfl (fun K hK => ?_) AllReady.nil)
            go_simp
            refine hK _ _ ?_
            clear hK K
            have RD247 := Lib.hid (RD238.out.alloc (.cells #[.int .i64 (1 + v1), .int .i64 0, .int .i64 9] 3))
            have GR247 := Lib.hid (grown_alloc GR238.out (.cells #[.int .i64 (1 + v1), .int .i64 0, .int .i64 9] 3))
            have C7247 := Lib.hid (C7238.out.alloc (.cells #[.int .i64 (1 + v1), .int .i64 0, .int .i64 9] 3))
            have LO247 := Lib.hid (LO238.out.next (alloc_belowX u238 (.cells #[.int .i64 (1 + v1), .int .i64 0, .int .i64 9] 3)))
            have C3247 := Lib.hid (lit3_new (R := R) (W := u238) (v := 1 + v1) RD238.out.lt)
            generalize u238.alloc (.cells #[.int .i64 (1 + v1), .int .i64 0, .int .i64 9] 3) = u247 at RD247 GR247 C7247 LO247 C3247 ⊢
            refine wpAny_take (i := 10) (v := ?v248) rfl (by kernel_rfl) (by kernel_rfl) (by kernel_rfl) (fun _ _ _ h => h) (Or.inl ⟨by kernel_rfl, ?h248⟩) ?_
            case h248 => intro w; go_simp; try with_reducible rfl
            go_simp
            refine wpAny_ready (rs := [11]) (by kernel_rfl) (by simp) (AllReady.cons rfl (fun K hK => ?_) AllReady.nil)
            go_simp
            obtain ⟨y, hy⟩ := C3247.out.get hi6
            go_simp
            refine hK _ _ ?_
            clear hK K hy
            refine wpAny_take (i := 15) (v := ?v250) rfl (by kernel_rfl) (by kernel_rfl) (by kernel_rfl) (fun _ _ _ h => h) (Or.inl ⟨by kernel_rfl, ?h250⟩) ?_
            case h250 => intro w; go_simp; try with_reducible rfl
            go_simp
            refine wpAny_take (i := 16) (v := ?v251) rfl (by kernel_rfl) (by kernel_rfl) (by kernel_rfl) (fun _ _ _ h => h) (Or.inl ⟨by kernel_rfl, ?h251⟩) ?_
            case h251 => intro w; go_simp; try with_reducible rfl
            go_simp
            refine wpAny_done (by kernel_rfl) ?_ _
            go_wp2
            go_ret3
            exact ⟨n, y, ls, al, cl, rfl, HLL.out, LO247.out, GR247.out⟩
  · skip
    go_simp
    refine hK _ _ ?_
    clear hK K
    have RD252 := Lib.hid (RD0.out.alloc (.cells #[.int .i64 0, .int .i64 0, .int .i64 0, .int .i64 0, .int .i64 0, .int .i64 1, .int .i64 2] 3))
    have GR252 := Lib.hid (grown_alloc GR0.out (.cells #[.int .i64 0, .int .i64 0, .int .i64 0, .int .i64 0, .int .i64 0, .int .i64 1, .int .i64 2] 3))
    have C7252 := Lib.hid (lit7_new (R := R) (W := u0) RD0.out.lt)
    generalize u0.alloc (.cells #[.int .i64 0, .int .i64 0, .int .i64 0, .int .i64 0, .int .i64 0, .int .i64 1, .int .i64 2] 3) = u252 at RD252 GR252 C7252 ⊢
    refine wpAny_ready (rs := [2]) (by kernel_rfl) (by simp) (AllReady.cons rfl (fun K hK => ?_) AllReady.nil)
    go_simp
    refine (pick_any R (p) 8 u252 RD252.out (by omega) (by omega) (by omega)).mono ?_
    rintro e u253 ⟨v1, ⟨hx253, hy253⟩, rfl, r253, g253⟩
    have RD253 := Lib.hid r253
    have GR253 := Lib.hid (grown_trans GR252.out g253)
    have C7253 := Lib.hid (C7252.out.grown g253)
    clear r253 g253
    have q1 : IntKind.i64.wrap (1 + v1) = 1 + v1 := by rw [IntKind.wrap_i64]; omega
    have q1' : wrap64 (1 + v1) = 1 + v1 := by unfold wrap64; omega
    go_simp
    refine hK _ _ ?_
    clear hK K
    refine wpAny_take (i := 3) (v := ?v254) rfl (by kernel_rfl) (by kernel_rfl) (by kernel_rfl) (fun _ _ _ h => h) (Or.inl ⟨by kernel_rfl, ?h254⟩) ?_
    case h254 => intro w; go_simp; try with_reducible rfl
    go_simp
    refine wpAny_ready (rs := [4, 7]) (by kernel_rfl) (by simp) (AllReady.cons rfl (fun K hK => ?_) (AllReady.cons rfl (fun K hK => ?_) AllReady.nil))
    · skip
      go_simp
      refine hK _ _ ?_
      clear hK K
      have RD255 := Lib.hid (RD253.out.alloc (.cells #[.int .i64 (1 + v1), .int .i64 0, .int .i64 9] 3))
      have GR255 := Lib.hid (grown_alloc GR253.out (.cells #[.int .i64 (1 + v1), .int .i64 0, .int .i64 9] 3))
      have C7255 := Lib.hid (C7253.out.alloc (.cells #[.int .i64 (1 + v1), .int .i64 0, .int .i64 9] 3))
      have C3255 := Lib.hid (lit3_new (R := R) (W := u253) (v := 1 + v1) RD253.out.lt)
      generalize u253.alloc (.cells #[.int .i64 (1 + v1), .int .i64 0, .int .i64 9] 3) = u255 at RD255 GR255 C7255 C3255 ⊢
      refine wpAny_ready (rs := [7]) (by kernel_rfl) (by simp) (AllReady.cons rfl (fun K hK => ?_) AllReady.nil)
      go_simp
      refine (pick_any R (p + 1) 7 u255 RD255.out (by omega) (by omega) (by omega)).mono ?_
      rintro e u256 ⟨x256, ⟨hx256, hy256⟩, rfl, r256, g256⟩
      have RD256 := Lib.hid r256
      have GR256 := Lib.hid (grown_trans GR255.out g256)
      have C7256 := Lib.hid (C7255.out.grown g256)
      have C3256 := Lib.hid (C3255.out.grown g256)
      clear r256 g256
      go_simp
      refine hK _ _ ?_
      clear hK K
      obtain ⟨k6, rfl⟩ := Int.eq_ofNat_of_zero_le hx256
      have hk6 : k6 < 7 := by omega
      have hk6' : (k6 : Int) < 7 := by omega
      clear hx256 hy256
      refine wpAny_take (i := 8) (v := ?v257) rfl (by kernel_rfl) (by kernel_rfl) (by kernel_rfl) (fun _ _ _ h => h) (Or.inl ⟨by kernel_rfl, ?h257⟩) ?_
      case h257 => intro w; go_simp; try with_reducible rfl
      go_simp
      refine wpAny_ready (rs := [9, 13]) (by kernel_rfl) (by simp) (AllReady.cons rfl (fun K hK => ?_) (AllReady.cons rfl (fun K hK => ?_) AllReady.nil))
      · skip
        go_simp
        obtain ⟨i6, hi6, hc6⟩ := C7256.out.get hk6
        have hi6' : (i6 : Int) < 3 := by omega
        go_simp
        refine hK _ _ ?_
        clear hK K hc6
        refine wpAny_take (i := 10) (v := ?v259) rfl (by kernel_rfl) (by kernel_rfl) (by kernel_rfl) (fun _ _ _ h => h) (Or.inl ⟨by kernel_rfl, ?h259⟩) ?_
        case h259 => intro w; go_simp; try with_reducible rfl
        go_simp
        refine wpAny_ready (rs := [11, 13]) (by kernel_rfl) (by simp) (AllReady.cons rfl (fun K hK => ?_) (AllReady.cons rfl (fun K hK => ?_) AllReady.nil))
        · skip
          go_simp
          obtain ⟨y, hy⟩ := C3256.out.get hi6
          go_simp
          refine hK _ _ ?_
          clear hK K hy
          refine wpAny_ready (rs := [13]) (by kernel_rfl) (by simp) (AllReady.cons rfl (fun K hK => ?_) AllReady.nil)
          go_simp
          refine (l20Lost_any R (p + 2) u256 RD256.out (by omega)).mono ?_
          rintro e u261 ⟨ls, al, cl, p9, rfl, hll, bl261, r261, _, g261⟩
          have RD261 := Lib.hid r261
          have GR261 := Lib.hid (grown_trans GR256.out g261)
          have LO261 := Lib.hid bl261
          have HLL := Lib.hid hll
          have C7261 := Lib.hid (C7256.out.grown g261)
          have C3261 := Lib.hid (C3256.out.grown g261)
          clear r261 g261 bl261 hll
          go_simp
          refine hK _ _ ?_
          clear hK K
          refine wpAny_take (i := 14) (v := ?v262) rfl (by kernel_rfl) (by kernel_rfl) (by kernel_rfl) (fun _ _ _ h => h) (Or.inl ⟨by kernel_rfl, ?h262⟩) ?_
          case h262 => intro w; go_simp; try with_reducible rfl
          go_simp
          refine wpAny_take (i := 15) (v := ?v263) rfl (by kernel_rfl) (by kernel_rfl) (by kernel_rfl) (fun _ _ _ h => h) (Or.inl ⟨by kernel_rfl, ?h263⟩) ?_
          case h263 => intro w; go_simp; try with_reducible rfl
          go_simp
          refine wpAny_take (i := 16) (v := ?v264) rfl (by kernel_rfl) (by kernel_rfl) (by kernel_rfl) (fun _ _ _ h => h) (Or.inl ⟨by kernel_rfl, ?h264⟩) ?_
          case h264 => intro w; go_simp; try with_reducible rfl
          go_simp
          refine wpAny_done (by kernel_rfl) ?_ _
          go_wp2
          go_ret3
          exact ⟨n, y, ls, al, cl, rfl, HLL.out, LO261.out, GR261.out⟩
        · skip
          go_simp
          refine (l20Lost_any R (p + 2) u256 RD256.out (by omega)).mono ?_
          rintro e u265 ⟨ls, al, cl, p9, rfl, hll, bl265, r265, _, g265⟩
          have RD265 := Lib.hid r265
          have GR265 := Lib.hid (grown_trans GR256.out g265)
          have LO265 := Lib.hid bl265
          have HLL := Lib.hid hll
          have C7265 := Lib.hid (C7256.out.grown g265)
          have C3265 := Lib.hid (C3256.out.grown g265)
          clear r265 g265 bl265 hll
          go_simp
          refine hK _ _ ?_
          clear hK K
          refine wpAny_take (i := 14) (v := ?v266) rfl (by kernel_rfl) (by kernel_rfl) (by kernel_rfl) (fun _ _ _ h => h) (Or.inl ⟨by kernel_rfl, ?h266⟩) ?_
          case h266 => intro w; go_simp; try with_reducible rfl
          go_simp
          refine wpAny_ready (rs := [11]) (by kernel_rfl) (by simp) (AllReady.cons rfl (fun K hK => ?_) AllReady.nil)
          go_simp
          obtain ⟨y, hy⟩ := C3265.out.get hi6
          go_simp
          refine hK _ _ ?_
          clear hK K hy
          refine wpAny_take (i := 15) (v := ?v268) rfl (by kernel_rfl) (by kernel_rfl) (by kernel_rfl) (fun _ _ _ h => h) (Or.inl ⟨by kernel_rfl, ?h268⟩) ?_
          case h268 => intro w; go_simp; try with_reducible rfl
          go_simp
          refine wpAny_take (i := 16) (v := ?v269) rfl (by kernel_rfl) (by kernel_rfl) (by kernel_rfl) (fun _ _ _ h => h) (Or.inl ⟨by kernel_rfl, ?h269⟩) ?_
          case h269 => intro w; go_simp; try with_reducible rfl
          go_simp
          refine wpAny_done (by kernel_rfl) ?_ _
          go_wp2
          go_ret3
          exact ⟨n, y, ls, al, cl, rfl, HLL.out, LO265.out, GR265.out⟩
      · skip
        go_simp
        refine (l20Lost_any R (p + 2) u256 RD256.out (by omega)).mono ?_
        rintro e u270 ⟨ls, al, cl, p9, rfl, hll, bl270, r270, _, g270⟩
        have RD270 := Lib.hid r270
        have GR270 := Lib.hid (grown_trans GR256.out g270)
        have LO270 := Lib.hid bl270
        have HLL := Lib.hid hll
        have C7270 := Lib.hid (C7256.out.grown g270)
        have C3270 := Lib.hid (C3256.out.grown g270)
        clear r270 g270 bl270 hll
        go_simp
        refine hK _ _ ?_
        clear hK K
        refine wpAny_take (i := 14) (v := ?v271) rfl (by kernel_rfl) (by kernel_rfl) (by kernel_rfl) (fun _ _ _ h => h) (Or.inl ⟨by kernel_rfl, ?h271⟩) ?_
        case h271 => intro w; go_simp; try with_reducible rfl
        go_simp
        refine wpAny_ready (rs := [9]) (by kernel_rfl) (by simp) (AllReady.cons rfl (fun K hK => ?_) AllReady.nil)
        go_simp
        obtain ⟨i6, hi6, hc6⟩ := C7270.out.get hk6
        have hi6' : (i6 : Int) < 3 := by omega
        go_simp
        refine hK _ _ ?_
        clear hK K hc6
        refine wpAny_take (i := 10) (v := ?v273) rfl (by kernel_rfl) (by kernel_rfl) (by kernel_rfl) (fun _ _ _ h => h) (Or.inl ⟨by kernel_rfl, ?h273⟩) ?_
        case h273 => intro w; go_simp; try with_reducible rfl
        go_simp
        refine wpAny_ready (rs := [11]) (by kernel_rfl) (by simp) (AllReady.cons rfl (fun K hK => ?_) AllReady.nil)
        go_simp
        obtain ⟨y, hy⟩ := C3270.out.get hi6
        go_simp
        refine hK _ _ ?_
        clear hK K hy
        refine wpAny_take (i := 15) (v := ?v275) rfl (by kernel_rfl) (by kernel_rfl) (by kernel_rfl) (fun _ _ _ h => h) (Or.inl ⟨by kernel_rfl, ?h275⟩) ?_
        case h275 => intro w; go_simp; try with_reducible rfl
        go_simp
        refine wpAny_take (i := 16) (v := ?v276) rfl (by kernel_rfl) (by kernel_rfl) (by kernel_rfl) (fun _ _ _ h => h) (Or.inl ⟨by kernel_rfl, ?h276⟩) ?_
        case h276 => intro w; go_simp; try with_reducible rfl
        go_simp
        refine wpAny_done (by kernel_rfl) ?_ _
        go_wp2
        go_ret3
        exact ⟨n, y, ls, al, cl, rfl, HLL.out, LO270.out, GR270.out⟩
    · skip
      go_simp
      refine (pick_any R (p + 1) 7 u253 RD253.out (by omega) (by omega) (by omega)).mono ?_
      rintro e u277 ⟨x277, ⟨hx277, hy277⟩, rfl, r277, g277⟩
      have RD277 := Lib.hid r277
      have GR277 := Lib.hid (grown_trans GR253.out g277)
      have C7277 := Lib.hid (C7253.out.grown g277)
      clear r277 g277
      go_simp
      refine hK _ _ ?_
      clear hK K
      obtain ⟨k6, rfl⟩ := Int.eq_ofNat_of_zero_le hx277
      have hk6 : k6 < 7 := by omega
      have hk6' : (k6 : Int) < 7 := by omega
      clear hx277 hy277
      refine wpAny_take (i := 8) (v := ?v278) rfl (by kernel_rfl) (by kernel_rfl) (by kernel_rfl) (fun _ _ _ h => h) (Or.inl ⟨by kernel_rfl, ?h278⟩) ?_
      case h278 => intro w; go_simp; try with_reducible rfl
      go_simp
      refine wpAny_ready (rs := [4, 9, 13]) (by kernel_rfl) (by simp) (AllReady.cons rfl (fun K hK => ?_) (AllReady.cons rfl (fun K hK => ?_) (AllReady.cons rfl (fun K hK => ?_) AllReady.nil)))
      · skip
        go_simp
        refine hK _ _ ?_
        clear hK K
        have RD279 := Lib.hid (RD277.out.alloc (.cells #[.int .i64 (1 + v1), .int .i64 0, .int .i64 9] 3))
        have GR279 := Lib.hid (grown_alloc GR277.out (.cells #[.int .i64 (1 + v1), .int .i64 0, .int .i64 9] 3))
        have C7279 := Lib.hid (C7277.out.alloc (.cells #[.int .i64 (1 + v1), .int .i64 0, .int .i64 9] 3))
        have C3279 := Lib.hid (lit3_new (R := R) (W := u277) (v := 1 + v1) RD277.out.lt)
        generalize u277.alloc (.cells #[.int .i64 (1 + v1), .int .i64 0, .int .i64 9] 3) = u279 at RD279 GR279 C7279 C3279 ⊢
        refine wpAny_ready (rs := [9, 13]) (by kernel_rfl) (by simp) (AllReady.cons rfl (fun K hK => ?_) (AllReady.cons rfl (fun K hK => ?_) AllReady.nil))
        · skip
          go_simp
          obtain ⟨i6, hi6, hc6⟩ := C7279.out.get hk6
          have hi6' : (i6 : Int) < 3 := by omega
          go_simp
          refine hK _ _ ?_
          clear hK K hc6
          refine wpAny_take (i := 10) (v := ?v281) rfl (by kernel_rfl) (by kernel_rfl) (by kernel_rfl) (fun _ _ _ h => h) (Or.inl ⟨by kernel_rfl, ?h281⟩) ?_
          case h281 => intro w; go_simp; try with_reducible rfl
          go_simp
          refine wpAny_ready (rs := [11, 13]) (by kernel_rfl) (by simp) (AllReady.cons rfl (fun K hK => ?_) (AllReady.cons rfl (fun K hK => ?_) AllReady.nil))
          · skip
            go_simp
            obtain ⟨y, hy⟩ := C3279.out.get hi6
            go_simp
            refine hK _ _ ?_
            clear hK K hy
            refine wpAny_ready (rs := [13]) (by kernel_rfl) (by simp) (AllReady.cons rfl (fun K hK => ?_) AllReady.nil)
            go_simp
            refine (l20Lost_any R (p + 2) u279 RD279.out (by omega)).mono ?_
            rintro e u283 ⟨ls, al, cl, p9, rfl, hll, bl283, r283, _, g283⟩
            have RD283 := Lib.hid r283
            have GR283 := Lib.hid (grown_trans GR279.out g283)
            have LO283 := Lib.hid bl283
            have HLL := Lib.hid hll
            have C7283 := Lib.hid (C7279.out.grown g283)
            have C3283 := Lib.hid (C3279.out.grown g283)
            clear r283 g283 bl283 hll
            go_simp
            refine hK _ _ ?_
            clear hK K
            refine wpAny_take (i := 14) (v := ?v284) rfl (by kernel_rfl) (by kernel_rfl) (by kernel_rfl) (fun _ _ _ h => h) (Or.inl ⟨by kernel_rfl, ?h284⟩) ?_
            case h284 => intro w; go_simp; try with_reducible rfl
            go_simp
            refine wpAny_take (i := 15) (v := ?v285) rfl (by kernel_rfl) (by kernel_rfl) (by kernel_rfl) (fun _ _ _ h => h) (Or.inl ⟨by kernel_rfl, ?h285⟩) ?_
            case h285 => intro w; go_simp; try with_reducible rfl
            go_simp
            refine wpAny_take (i := 16) (v := ?v286) rfl (by kernel_rfl) (by kernel_rfl) (by kernel_rfl) (fun _ _ _ h => h) (Or.inl ⟨by kernel_rfl, ?h286⟩) ?_
            case h286 => intro w; go_simp; try with_reducible rfl
            go_simp
            refine wpAny_done (by kernel_rfl) ?_ _
            go_wp2
            go_ret3
            exact ⟨n, y, ls, al, cl, rfl, HLL.out, LO283.out, GR283.out⟩
          · skip
            go_simp
            refine (l20Lost_any R (p + 2) u279 RD279.out (by omega)).mono ?_
            rintro e u287 ⟨ls, al, cl, p9, rfl, hll, bl287, r287, _, g287⟩
            have RD287 := Lib.hid r287
            have GR287 := Lib.hid (grown_trans GR279.out g287)
            have LO287 := Lib.hid bl287
            have HLL := Lib.hid hll
            have C7287 := Lib.hid (C7279.out.grown g287)
            have C3287 := Lib.hid (C3279.out.grown g287)
            clear r287 g287 bl287 hll
            go_simp
            refine hK _ _ ?_
            clear hK K
            refine wpAny_take (i := 14) (v := ?v288) rfl (by kernel_rfl) (by kernel_rfl) (by kernel_rfl) (fun _ _ _ h => h) (Or.inl ⟨by kernel_rfl, ?h288⟩) ?_
            case h288 => intro w; go_simp; try with_reducible rfl
            go_simp
            refine wpAny_ready (rs := [11]) (by kernel_rfl) (by simp) (AllReady.cons rfl (fun K hK => ?_) AllReady.nil)
            go_simp
            obtain ⟨y, hy⟩ := C3287.out.get hi6
            go_simp
            refine hK _ _ ?_
            clear hK K hy
            refine wpAny_take (i := 15) (v := ?v290) rfl (by kernel_rfl) (by kernel_rfl) (by kernel_rfl) (fun _ _ _ h => h) (Or.inl ⟨by kernel_rfl, ?h290⟩) ?_
            case h290 => intro w; go_simp; try with_reducible rfl
            go_simp
            refine wpAny_take (i := 16) (v := ?v291) rfl (by kernel_rfl) (by kernel_rfl) (by kernel_rfl) (fun _ _ _ h => h) (Or.inl ⟨by kernel_rfl, ?h291⟩) ?_
            case h291 => intro w; go_simp; try with_reducible rfl
            go_simp
            refine wpAny_done (by kernel_rfl) ?_ _
            go_wp2
            go_ret3
            exact ⟨n, y, ls, al, cl, rfl, HLL.out, LO287.out, GR287.out⟩
        · skip
          go_simp
          refine (l20Lost_any R (p + 2) u279 RD279.out (by omega)).mono ?_
          rintro e u292 ⟨ls, al, cl, p9, rfl, hll, bl292, r292, _, g292⟩
          have RD292 := Lib.hid r292
          have GR292 := Lib.hid (grown_trans GR279.out g292)
          have LO292 := Lib.hid bl292
          have HLL := Lib.hid hll
          have C7292 := Lib.hid (C7279.out.grown g292)
          have C3292 := Lib.hid (C3279.out.grown g292)
          clear r292 g292 bl292 hll
          go_simp
          refine hK _ _ ?_
          clear hK K
          refine wpAny_take (i := 14) (v := ?v293) rfl (by kernel_rfl) (by kernel_rfl) (by kernel_rfl) (fun _ _ _ h => h) (Or.inl ⟨by kernel_rfl, ?h293⟩) ?_
          case h293 => intro w; go_simp; try with_reducible rfl
          go_simp
          refine wpAny_ready (rs := [9]) (by kernel_rfl) (by simp) (AllReady.cons rfl (fun K hK => ?_) AllReady.nil)
          go_simp
          obtain ⟨i6, hi6, hc6⟩ := C7292.out.get hk6
          have hi6' : (i6 : Int) < 3 := by omega
          go_simp
          refine hK _ _ ?_
          clear hK K hc6
          refine wpAny_take (i := 10) (v := ?v295) rfl (by kernel_rfl) (by kernel_rfl) (by kernel_rfl) (fun _ _ _ h => h) (Or.inl ⟨by kernel_rfl, ?h295⟩) ?_
          case h295 => intro w; go_simp; try with_reducible rfl
          go_simp
          refine wpAny_ready (rs := [11]) (by kernel_rfl) (by simp) (AllReady.cons rfl (fun K hK => ?_) AllReady.nil)
          go_simp
          obtain ⟨y, hy⟩ := C3292.out.get hi6
          go_simp
          refine hK _ _ ?_
          clear hK K hy
          refine wpAny_take (i := 15) (v := ?v297) rfl (by kernel_rfl) (by kernel_rfl) (by kernel_rfl) (fun _ _ _ h => h) (Or.inl ⟨by kernel_rfl, ?h297⟩) ?_
          case h297 => intro w; go_simp; try with_reducible rfl
          go_simp
          refine wpAny_take (i := 16) (v := ?v298) rfl (by kernel_rfl) (by kernel_rfl) (by kernel_rfl) (fun _ _ _ h => h) (Or.inl ⟨by kernel_rfl, ?h298⟩) ?_
          case h298 => intro w; go_simp; try with_reducible rfl
          go_simp
          refine wpAny_done (by kernel_rfl) ?_ _
          go_wp2
          go_ret3
          exact ⟨n, y, ls, al, cl, rfl, HLL.out, LO292.out, GR292.out⟩
      · skip
        go_simp
        obtain ⟨i6, hi6, hc6⟩ := C7277.out.get hk6
        have hi6' : (i6 : Int) < 3 := by omega
        go_simp
        refine hK _ _ ?_
        clear hK K hc6
        refine wpAny_ready (rs := [4, 13]) (by kernel_rfl) (by simp) (AllReady.cons rfl (fun K hK => ?_) (AllReady.cons rfl (fun K hK => ?_) AllReady.nil))
        · skip
          go_simp
          refine hK _ _ ?_
          clear hK K
          have RD300 := Lib.hid (RD277.out.alloc (.cells #[.int .i64 (1 + v1), .int .i64 0, .int .i64 9] 3))
          have GR300 := Lib.hid (grown_alloc GR277.out (.cells #[.int .i64 (1 + v1), .int .i64 0, .int .i64 9] 3))
          have C7300 := Lib.hid (C7277.out.alloc (.cells #[.int .i64 (1 + v1), .int .i64 0, .int .i64 9] 3))
          have C3300 := Lib.hid (lit3_new (R := R) (W := u277) (v := 1 + v1) RD277.out.lt)
          generalize u277.alloc (.cells #[.int .i64 (1 + v1), .int .i64 0, .int .i64 9] 3) = u300 at RD300 GR300 C7300 C3300 ⊢
          refine wpAny_take (i := 10) (v := ?v301) rfl (by kernel_rfl) (by kernel_rfl) (by kernel_rfl) (fun _ _ _ h => h) (Or.inl ⟨by kernel_rfl, ?h301⟩) ?_
          case h301 => intro w; go_simp; try with_reducible rfl
          go_simp
          refine wpAny_ready (rs := [11, 13]) (by kernel_rfl) (by simp) (AllReady.cons rfl (fun K hK => ?_) (AllReady.cons rfl (fun K hK => ?_) AllReady.nil))
          · skip
            go_simp
            obtain ⟨y, hy⟩ := C3300.out.get hi6
            go_simp
            refine hK _ _ ?_
            clear hK K hy
            refine wpAny_ready (rs := [13]) (by kernel_rfl) (by simp) (AllReady.cons rfl (fun K hK => ?_) AllReady.nil)
            go_simp
            refine (l20Lost_any R (p + 2) u300 RD300.out (by omega)).mono ?_
            rintro e u303 ⟨ls, al, cl, p9, rfl, hll, bl303, r303, _, g303⟩
            have RD303 := Lib.hid r303
            have GR303 := Lib.hid (grown_trans GR300.out g303)
            have LO303 := Lib.hid bl303
            have HLL := Lib.hid hll
            have C7303 := Lib.hid (C7300.out.grown g303)
            have C3303 := Lib.hid (C3300.out.grown g303)
            clear r303 g303 bl303 hll
            go_simp
            refine hK _ _ ?_
            clear hK K
            refine wpAny_take (i := 14) (v := ?v304) rfl (by kernel_rfl) (by kernel_rfl) (by kernel_rfl) (fun _ _ _ h => h) (Or.inl ⟨by kernel_rfl, ?h304⟩) ?_
            case h304 => intro w; go_simp; try with_reducible rfl
            go_simp
            refine wpAny_take (i := 15) (v := ?v305) rfl (by kernel_rfl) (by kernel_rfl) (by kernel_rfl) (fun _ _ _ h => h) (Or.inl ⟨by kernel_rfl, ?h305⟩) ?_
            case h305 => intro w; go_simp; try with_reducible rfl
            go_simp
            refine wpAny_take (i := 16) (v := ?v306) rfl (by kernel_rfl) (by kernel_rfl) (by kernel_rfl) (fun _ _ _ h => h) (Or.inl ⟨by kernel_rfl, ?h306⟩) ?_
            case h306 => intro w; go_simp; try with_reducible rfl
            go_simp
            refine wpAny_done (by kernel_rfl) ?_ _
            go_wp2
            go_ret3
            exact ⟨n, y, ls, al, cl, rfl, HLL.out, LO303.out, GR303.out⟩
          · skip
            go_simp
            refine (l20Lost_any R (p + 2) u300 RD300.out (by omega)).mono ?_
            rintro e u307 ⟨ls, al, cl, p9, rfl, hll, bl307, r307, _, g307⟩
            have RD307 := Lib.hid r307
            have GR307 := Lib.hid (grown_trans GR300.out g307)
            have LO307 := Lib.hid bl307
            have HLL := Lib.hid hll
            have C7307 := Lib.hid (C7300.out.grown g307)
            have C3307 := Lib.hid (C3300.out.grown g307)
            clear r307 g307 bl307 hll
            go_simp
            refine hK _ _ ?_
            clear hK K
            refine wpAny_take (i := 14) (v := ?v308) rfl (by kernel_rfl) (by kernel_rfl) (by kernel_rfl) (fun _ _ _ h => h) (Or.inl ⟨by kernel_rfl, ?h308⟩) ?_
            case h308 => intro w; go_simp; try with_reducible rfl
            go_simp
            refine wpAny_ready (rs := [11]) (by kernel_rfl) (by simp) (AllReady.cons rfl (fun K hK => ?_) AllReady.nil)
            go_simp
            obtain ⟨y, hy⟩ := C3307.out.get hi6
            go_simp
            refine hK _ _ ?_
            clear hK K hy
            refine wpAny_take (i := 15) (v := ?v310) rfl (by kernel_rfl) (by kernel_rfl) (by kernel_rfl) (fun _ _ _ h => h) (Or.inl ⟨by kernel_rfl, ?h310⟩) ?_
            case h310 => intro w; go_simp; try with_reducible rfl
            go_simp
            refine wpAny_take (i := 16) (v := ?v311) rfl (by kernel_rfl) (by kernel_rfl) (by kernel_rfl) (fun _ _ _ h => h) (Or.inl ⟨by kernel_rfl, ?h311⟩) ?_
            case h311 => intro w; go_simp; try with_reducible rfl
            go_simp
            refine wpAny_done (by kernel_rfl) ?_ _
            go_wp2
            go_ret3
            exact ⟨n, y, ls, al, cl, rfl, HLL.out, LO307.out, GR307.out⟩
        · skip
          go_simp
          refine (l20Lost_any R (p + 2) u277 RD277.out (by omega)).mono ?_
          rintro e u312 ⟨ls, al, cl, p9, rfl, hll, bl312, r312, _, g312⟩
          have RD312 := Lib.hid r312
          have GR312 := Lib.hid (grown_trans GR277.out g312)
          have LO312 := Lib.hid bl312
          have HLL := Lib.hid hll
          have C7312 := Lib.hid (C7277.out.grown g312)
          clear r312 g312 bl312 hll
          go_simp
          refine hK _ _ ?_
          clear hK K
          refine wpAny_take (i := 14) (v := ?v313) rfl (by kernel_rfl) (by kernel_rfl) (by kernel_rfl) (fun _ _ _ h => h) (Or.inl ⟨by kernel_rfl, ?h313⟩) ?_
          case h313 => intro w; go_simp; try with_reducible rfl
          go_simp
          refine wpAny_ready (rs := [4]) (by kernel_rfl) (by simp) (AllReady.cons rfl (fun K hK => ?_) AllReady.nil)
          go_simp
          refine hK _ _ ?_
          clear hK K
          have RD314 := Lib.hid (RD312.out.alloc (.cells #[.int .i64 (1 + v1), .int .i64 0, .int .i64 9] 3))
          have GR314 := Lib.hid (grown_alloc GR312.out (.cells #[.int .i64 (1 + v1), .int .i64 0, .int .i64 9] 3))
          have C7314 := Lib.hid (C7312.out.alloc (.cells #[.int .i64 (1 + v1), .int .i64 0, .int .i64 9] 3))
          have LO314 := Lib.hid (LO312.out.next (alloc_belowX u312 (.cells #[.int .i64 (1 + v1), .int .i64 0, .int .i64 9] 3)))
          have C3314 := Lib.hid (lit3_new (R := R) (W := u312) (v := 1 + v1) RD312.out.lt)
          generalize u312.alloc (.cells #[.int .i64 (1 + v1), .int .i64 0, .int .i64 9] 3) = u314 at RD314 GR314 C7314 LO314 C3314 ⊢
          refine wpAny_take (i := 10) (v := ?v315) rfl (by kernel_rfl) (by kernel_rfl) (by kernel_rfl) (fun _ _ _ h => h) (Or.inl ⟨by kernel_rfl, ?h315⟩) ?_
          case h315 => intro w; go_simp; try with_reducible rfl
          go_simp
          refine wpAny_ready (rs := [11]) (by kernel_rfl) (by simp) (AllReady.cons rfl (fun K hK => ?_) AllReady.nil)
          go_simp
          obtain ⟨y, hy⟩ := C3314.out.get hi6
          go_simp
          refine hK _ _ ?_
          clear hK K hy
          refine wpAny_take (i := 15) (v := ?v317) rfl (by kernel_rfl) (by kernel_rfl) (by kernel_rfl) (fun _ _ _ h => h) (Or.inl ⟨by kernel_rfl, ?h317⟩) ?_
          case h317 => intro w; go_simp; try with_reducible rfl
          go_simp
          refine wpAny_take (i := 16) (v := ?v318) rfl (by kernel_rfl) (by kernel_rfl) (by kernel_rfl) (fun _ _ _ h => h) (Or.inl ⟨by kernel_rfl, ?h318⟩) ?_
          case h318 => intro w; go_simp; try with_reducible rfl
          go_simp
          refine wpAny_done (by kernel_rfl) ?_ _
          go_wp2
          go_ret3
          exact ⟨n, y, ls, al, cl, rfl, HLL.out, LO314.out, GR314.out⟩
      · skip
        go_simp
        refine (l20Lost_any R (p + 2) u277 RD277.out (by omega)).mono ?_
        rintro e u319 ⟨ls, al, cl, p9, rfl, hll, bl319, r319, _, g319⟩
        have RD319 := Lib.hid r319
        have GR319 := Lib.hid (grown_trans GR277.out g319)
        have LO319 := Lib.hid bl319
        have HLL := Lib.hid hll
        have C7319 := Lib.hid (C7277.out.grown g319)
        clear r319 g319 bl319 hll
        go_simp
        refine hK _ _ ?_
        clear hK K
        refine wpAny_take (i := 14) (v := ?v320) rfl (by kernel_rfl) (by kernel_rfl) (by kernel_rfl) (fun _ _ _ h => h) (Or.inl ⟨by kernel_rfl, ?h320⟩) ?_
        case h320 => intro w; go_simp; try with_reducible rfl
        go_simp
        refine wpAny_ready (rs := [4, 9]) (by kernel_rfl) (by simp) (AllReady.cons rfl (fun K hK => ?_) (AllReady.cons rfl (fun K hK => ?_) AllReady.nil))
        · skip
          go_simp
          refine hK _ _ ?_
          clear hK K
          have RD321 := Lib.hid (RD319.out.alloc (.cells #[.int .i64 (1 + v1), .int .i64 0, .int .i64 9] 3))
          have GR321 := Lib.hid (grown_alloc GR319.out (.cells #[.int .i64 (1 + v1), .int .i64 0, .int .i64 9] 3))
          have C7321 := Lib.hid (C7319.out.alloc (.cells #[.int .i64 (1 + v1), .int .i64 0, .int .i64 9] 3))
          have LO321 := Lib.hid (LO319.out.next (alloc_belowX u319 (.cells #[.int .i64 (1 + v1), .int .i64 0, .int .i64 9] 3)))
          have C3321 := Lib.hid (lit3_new (R := R) (W := u319) (v := 1 + v1) RD319.out.lt)
          generalize u319.alloc (.cells #[.int .i64 (1 + v1), .int .i64 0, .int .i64 9] 3) = u321 at RD321 GR321 C7321 LO321 C3321 ⊢
          refine wpAny_ready (rs := [9]) (by kernel_rfl) (by simp) (AllReady.cons rfl (fun K hK => ?_) AllReady.nil)
          go_simp
          obtain ⟨i6, hi6, hc6⟩ := C7321.out.get hk6
          have hi6' : (i6 : Int) < 3 := by omega
          go_simp
          refine hK _ _ ?_
          clear hK K hc6
          refine wpAny_take (i := 10) (v := ?v323) rfl (by kernel_rfl) (by kernel_rfl) (by kernel_rfl) (fun _ _ _ h => h) (Or.inl ⟨by kernel_rfl, ?h323⟩) ?_
          case h323 => intro w; go_simp; try with_reducible rfl
          go_simp
          refine wpAny_ready (rs := [11]) (by kernel_rfl) (by simp) (AllReady.cons rfl (fun K hK => ?_) AllReady.nil)
          go_simp
          obtain ⟨y, hy⟩ := C3321.out.get hi6
          go_simp
          refine hK _ _ ?_
          clear hK K hy
          refine wpAny_take (i := 15) (v := ?v325) rfl (by kernel_rfl) (by kernel_rfl) (by kernel_rfl) (fun _ _ _ h => h) (Or.inl ⟨by kernel_rfl, ?h325⟩) ?_
          case h325 => intro w; go_simp; try with_reducible rfl
          go_simp
          refine wpAny_take (i := 16) (v := ?v326) rfl (by kernel_rfl) (by kernel_rfl) (by kernel_rfl) (fun _ _ _ h => h) (Or.inl ⟨by kernel_rfl, ?h326⟩) ?_
          case h326 => intro w; go_simp; try with_reducible rfl
          go_simp
          refine wpAny_done (by kernel_rfl) ?_ _
          go_wp2
          go_ret3
          exact ⟨n, y, ls, al, cl, rfl, HLL.out, LO321.out, GR321.out⟩
        · skip
          go_simp
          obtain ⟨i6, hi6, hc6⟩ := C7319.out.get hk6
          have hi6' : (i6 : Int) < 3 := by omega
          go_simp
          refine hK _ _ ?_
          clear hK K hc6
          refine wpAny_ready (rs := [4]) (by kernel_rfl) (by simp) (AllReady.cons rfl (fun K hK => ?_) AllReady.nil)
          go_simp
          refine hK _ _ ?_
          clear hK K
          have RD328 := Lib.hid (RD319.out.alloc (.cells #[.int .i64 (1 + v1), .int .i64 0, .int .i64 9] 3))
          have GR328 := Lib.hid (grown_alloc GR319.out (.cells #[.int .i64 (1 + v1), .int .i64 0, .int .i64 9] 3))
          have C7328 := Lib.hid (C7319.out.alloc (.cells #[.int .i64 (1 + v1), .int .i64 0, .int .i64 9] 3))
          have LO328 := Lib.hid (LO319.out.next (alloc_belowX u319 (.cells #[.int .i64 (1 + v1), .int .i64 0, .int .i64 9] 3)))
          have C3328 := Lib.hid (lit3_new (R := R) (W := u319) (v := 1 + v1) RD319.out.lt)
          generalize u319.alloc (.cells #[.int .i64 (1 + v1), .int .i64 0, .int .i64 9] 3) = u328 at RD328 GR328 C7328 LO328 C3328 ⊢
          refine wpAny_take (i := 10) (v := ?v329) rfl (by kernel_rfl) (by kernel_rfl) (by kernel_rfl) (fun _ _ _ h => h) (Or.inl ⟨by kernel_rfl, ?h329⟩) ?_
          case h329 => intro w; go_simp; try with_reducible rfl
          go_simp
          refine wpAny_ready (rs := [11]) (by kernel_rfl) (by simp) (AllReady.cons rfl (fun K hK => ?_) AllReady.nil)
          go_simp
          obtain ⟨y, hy⟩ := C3328.out.get hi6
          go_simp
          refine hK _ _ ?_
          clear hK K hy
          refine wpAny_take (i := 15) (v := ?v331) rfl (by kernel_rfl) (by kernel_rfl) (by kernel_rfl) (fun _ _ _ h => h) (Or.inl ⟨by kernel_rfl, ?h331⟩) ?_
          case h331 => intro w; go_simp; try with_reducible rfl
          go_simp
          refine wpAny_take (i := 16) (v := ?v332) rfl (by kernel_rfl) (by kernel_rfl) (by kernel_rfl) (fun _ _ _ h => h) (Or.inl ⟨by kernel_rfl, ?h332⟩) ?_
          case h332 => intro w; go_simp; try with_reducible rfl
          go_simp
          refine wpAny_done (by kernel_rfl) ?_ _
          go_wp2
          go_ret3
          exact ⟨n, y, ls, al, cl, rfl, HLL.out, LO328.out, GR328.out⟩
end Go.Proofs.Ytenihedpbklmlaa
