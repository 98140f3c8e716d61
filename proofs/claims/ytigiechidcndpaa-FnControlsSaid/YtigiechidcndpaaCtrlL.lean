/- The law FnControls, walked over the contracts of the program's functions. No condition. -/
import Derived.Test.YtigiechidcndpaaDctS
import Derived.Test.YtigiechidcndpaaLftI
import Derived.Test.YtigiechidcndpaaTltI
import Derived.Test.YtigiechidcndpaaPlsI
import Derived.Test.YtigiechidcndpaaHldS
import Derived.Test.YtigiechidcndpaaHasW
import Derived.Test.YtigiechidcndpaaByteAt
import Derived.BigQuiet
namespace Go.Proofs.Ytigiechidcndpaa
set_option linter.unusedVariables false
set_option linter.unusedSimpArgs false
open Go.RowKit

theorem getD_lt {zs : List Int} {k : Nat} (h : k < zs.length) : zs.getD k 0 = zs[k] := by rw [List.getD_eq_getElem?_getD, List.getElem?_eq_getElem h]; rfl

set_option maxHeartbeats 400000 in
theorem sameInts_same (v1 v2 : Value) (zs : List Int) (b1 b2 : Nat) (w : World) (h1 : OwnI w b1 v1 zs) (h2 : OwnI w b2 v2 zs) (hl : zs.length ≤ 2000000) :
    Calls Try.prog 18 #[v1, v2] w fun e w' => e = .returned (.bool true) ∧ Below w.heap.size w w' := by
  obtain ⟨A1, c1, e1⟩ := h1.slice
  obtain ⟨A2, c2, e2⟩ := h2.slice
  subst e1 e2
  have H1 := Lib.hid h1
  have H2 := Lib.hid h2
  clear h1 h2
  go_enter Try.func18, Try.ntmps18
  go_wp2
  go_loopw [5] (fun i wr => ∃ (k : Nat), k ≤ zs.length ∧ i = .int .i64 k ∧ Below w.heap.size w wr) (fun i _ => zs.length - (intOf i).toNat)
  case atStart => exact ⟨0, by omega, rfl, Below.refl _ _⟩
  case round =>
    obtain ⟨k, hk, rfl, hb⟩ := hrel
    by_cases hlt : k < zs.length
    · obtain ⟨g1, d1, e1, _, l1, r1, _⟩ := H1.out.spot hlt
      obtain ⟨g2, d2, e2, _, l2, r2, _⟩ := H2.out.spot hlt
      simp only [Value.slice.injEq] at e1 e2
      obtain ⟨rfl, _, rfl⟩ := e1
      obtain ⟨rfl, _, rfl⟩ := e2
      have hk0 : (0 : Int) ≤ (k : Int) := by omega
      have hk1 : (k : Int) < (zs.length : Int) := by omega
      replace r1 := (hb.cell l1).trans r1
      replace r2 := (hb.cell l2).trans r2
      go_wp2
      go_quiet (fail)
      go_wp2
      exact ⟨⟨k + 1, by omega, by go_num, hb.trans (below_drewN (Below.refl _ _) _)⟩, by simp [intOf]; omega⟩
    · go_wp2
      go_ret
      exact ⟨rfl, hb⟩

set_option maxRecDepth 100000 in
set_option maxHeartbeats 3200000 in
theorem FnControls_walk (a : Option Addr) (n cap : Nat) (z : List Int) (w : World) (hr : IsRow .u8 w a n cap z) :
    Calls Try.prog 3 #[.slice a n cap] w fun e w' => e = .returned (.bool true) ∧ Below w.heap.size w w' := by
  have hn := row_len hr
  by_cases hb : 1048576 < n
  · have BG := Lib.hid (fun W => big_yes a n cap W hb hn)
    clear hr
    go_enter Try.func3, Try.ntmps3
    go_wp2_with (go_at_call 9; refine (BG.out _).mono ?_; rintro e w' ⟨rfl, rfl⟩)
    go_ret
    exact ⟨rfl, Below.refl _ _⟩
  have BG := Lib.hid (fun W => big_no a n cap W (by omega))
  have DC := Lib.hid (dct_any a n cap z w hr (by omega))
  obtain ⟨xa, ⟨hxa0, hxa1⟩, hA⟩ := at_fixed a n cap z w hr 0 (by omega) (by omega)
  have A0 := Lib.hid hA
  obtain ⟨xb, ⟨hxb0, hxb1⟩, hB⟩ := at_fixed a n cap z w hr 1 (by omega) (by omega)
  have A1 := Lib.hid (fun W h => (hB W h).mono fun e w' h => (show _ ∧ w' = W from ⟨h.1, h.2.symm⟩))
  clear hr hb hA hB
  go_enter Try.func3, Try.ntmps3
  go_wp2_with (go_at_call 9; refine (BG.out _).mono ?_; rintro e w' ⟨rfl, rfl⟩)
  refine DC.out.mono ?_
  rintro e w0_ ⟨H, va, vc, t0, l0, rfl, o_, hd, b_⟩
  obtain ⟨A_c, a_c, C_c, c_c, rfl, rfl⟩ := o_.slice
  have HD := Lib.hid hd
  obtain ⟨d, hd'⟩ : ∃ d, xa % 20 = d := ⟨_, rfl⟩
  have hd0 : 0 ≤ d := by omega
  have hd1 : d < 20 := by omega
  have hh := hd.high
  have hm := hd.many
  have hcl := hd.cords.len
  have L := Lib.hid (hd.lift d hd0 hd1)
  have OK := Lib.hid (show ctlOk H t0 l0 7 = true from by have := hd.ok 0 (by omega) (by omega); rwa [Int.add_zero] at this)
  have S := Lib.hid b_
  have O_c := Lib.hid o_
  clear o_ b_ DC BG
  have CP := Lib.hid (fun H' va vc b W h => implPullsOf H' va vc t0 l0 7 b W h (by omega) (by omega))
  have CL := Lib.hid (fun va vc b W h => L.out.1 ▸ L.out.2 ▸ implLift H d va vc t0 l0 b W h (by omega) (by omega) (WalkArith.wf_i64 (by omega)) (WalkArith.wf_i64 (by omega)))
  have CH := Lib.hid (fun va vc b W h => implHeld H va vc t0 l0 b W h (by omega))
  have CK := Lib.hid (fun va vc b W h => OK.out ▸ implCtl H va vc t0 l0 7 b W h (by omega) (by omega))
  have AT := Lib.hid (fun j hj => hd.at d hd0 hd1 j hj)
  have LP : (pullsOf H t0 l0 7).length = 7 := by have := hd.plen 0 (by omega) (by omega); rwa [Int.add_zero] at this
  have LQ : (pullsOf (H + d) t0 l0 7).length = 7 := hd.plen d hd0 hd1
  have LJ := Lib.hid hd.held
  unfold ctlV at CP CL CH CK
  unfold ctlV
  replace S := Lib.hid (S.out.alloc S.out.size (.cells #[.int .i64 H, .slice A_c t0.length a_c, .slice C_c l0.length c_c] 27))
  replace O_c := Lib.hid (O_c.out.alloc (.cells #[.int .i64 H, .slice A_c t0.length a_c, .slice C_c l0.length c_c] 27))
  have X_c := Lib.hid (boxV_new w0_ [.int .i64 H, .slice A_c t0.length a_c, .slice C_c l0.length c_c] 27)
  generalize hP : pullsOf H t0 l0 7 = P at AT LP
  generalize hQ : pullsOf (H + d) t0 l0 7 = Q at AT LQ
  generalize hJ : jointsHeld l0 = J at AT LJ CH
  have CP1 := Lib.hid (fun va vc b W h => hP ▸ CP.out H va vc b W h)
  have CP2 := Lib.hid (fun va vc b W h => hQ ▸ CP.out (H + d) va vc b W h)
  clear CP hP hQ hJ hd
  have LP := Lib.hid LP
  have LQ := Lib.hid LQ
  obtain ⟨yc_0, yc_1, yc_2⟩ := X_c.out.three
  go_wp2_with fail
  refine (CP1.out _ _ _ _ O_c.out).mono ?_
  rintro e w1_ ⟨v_p, rfl, o_, b_⟩
  replace S := Lib.hid (S.out.trans (b_.mono S.out.size))
  replace O_c := Lib.hid (O_c.out.below b_)
  replace X_c := Lib.hid (X_c.out.below b_)
  have O_p := Lib.hid o_
  clear o_ b_
  clear yc_0 yc_1 yc_2
  obtain ⟨yc_0, yc_1, yc_2⟩ := X_c.out.three
  go_wp2_with fail
  refine (A0.out _ S.out).mono ?_
  rintro e w9_ ⟨rfl, rfl⟩
  go_wp2_with fail
  rw [hd']
  refine (CL.out _ _ _ _ O_c.out).mono ?_
  rintro e w2_ ⟨va_l, vc_l, rfl, o_, b_⟩
  obtain ⟨A_l, a_l, C_l, c_l, rfl, rfl⟩ := o_.slice
  replace S := Lib.hid (S.out.trans (b_.mono S.out.size))
  replace O_c := Lib.hid (O_c.out.below b_)
  replace O_p := Lib.hid (O_p.out.below b_)
  replace X_c := Lib.hid (X_c.out.below b_)
  have O_l := Lib.hid o_
  clear o_ b_
  unfold ctlV
  replace S := Lib.hid (S.out.alloc S.out.size (.cells #[.int .i64 (H + d), .slice A_l t0.length a_l, .slice C_l l0.length c_l] 27))
  replace O_c := Lib.hid (O_c.out.alloc (.cells #[.int .i64 (H + d), .slice A_l t0.length a_l, .slice C_l l0.length c_l] 27))
  replace O_p := Lib.hid (O_p.out.alloc (.cells #[.int .i64 (H + d), .slice A_l t0.length a_l, .slice C_l l0.length c_l] 27))
  replace O_l := Lib.hid (O_l.out.alloc (.cells #[.int .i64 (H + d), .slice A_l t0.length a_l, .slice C_l l0.length c_l] 27))
  replace X_c := Lib.hid (X_c.out.alloc (.cells #[.int .i64 (H + d), .slice A_l t0.length a_l, .slice C_l l0.length c_l] 27))
  have X_l := Lib.hid (boxV_new w2_ [.int .i64 (H + d), .slice A_l t0.length a_l, .slice C_l l0.length c_l] 27)
  clear yc_0 yc_1 yc_2
  obtain ⟨yl_0, yl_1, yl_2⟩ := X_l.out.three
  go_wp2_with fail
  refine (CP2.out _ _ _ _ O_l.out).mono ?_
  rintro e w3_ ⟨v_q, rfl, o_, b_⟩
  replace S := Lib.hid (S.out.trans (b_.mono S.out.size))
  replace O_c := Lib.hid (O_c.out.below b_)
  replace O_p := Lib.hid (O_p.out.below b_)
  replace O_l := Lib.hid (O_l.out.below b_)
  replace X_c := Lib.hid (X_c.out.below b_)
  replace X_l := Lib.hid (X_l.out.below b_)
  have O_q := Lib.hid o_
  clear o_ b_
  clear yl_0 yl_1 yl_2
  obtain ⟨yc_0, yc_1, yc_2⟩ := X_c.out.three
  go_wp2_with fail
  refine (CH.out _ _ _ _ O_c.out).mono ?_
  rintro e w4_ ⟨v_h, rfl, o_, b_⟩
  replace S := Lib.hid (S.out.trans (b_.mono S.out.size))
  replace O_c := Lib.hid (O_c.out.below b_)
  replace O_p := Lib.hid (O_p.out.below b_)
  replace O_l := Lib.hid (O_l.out.below b_)
  replace O_q := Lib.hid (O_q.out.below b_)
  replace X_c := Lib.hid (X_c.out.below b_)
  replace X_l := Lib.hid (X_l.out.below b_)
  have O_h := Lib.hid o_
  clear o_ b_
  clear yc_0 yc_1 yc_2
  obtain ⟨A_p, c_p, rfl⟩ := O_p.out.slice
  obtain ⟨A_q, c_q, rfl⟩ := O_q.out.slice
  obtain ⟨A_h, c_h, rfl⟩ := O_h.out.slice
  rw [LP.out] at O_p ⊢
  rw [LQ.out] at O_q ⊢
  rw [LJ.out] at O_h ⊢
  obtain ⟨bh, O_h⟩ : ∃ bh, Hid (OwnI w4_ bh (.slice A_h l0.length c_h) J) := ⟨_, O_h⟩
  obtain ⟨yc_0, yc_1, yc_2⟩ := X_c.out.three
  go_wp2_with fail
  refine (CK.out _ _ _ _ O_c.out).mono ?_
  rintro e w5_ ⟨rfl, b_⟩
  replace S := Lib.hid (S.out.trans (b_.mono S.out.size))
  replace O_c := Lib.hid (O_c.out.below b_)
  replace O_p := Lib.hid (O_p.out.below b_)
  replace O_l := Lib.hid (O_l.out.below b_)
  replace O_q := Lib.hid (O_q.out.below b_)
  replace O_h := Lib.hid (O_h.out.below b_)
  replace X_c := Lib.hid (X_c.out.below b_)
  replace X_l := Lib.hid (X_l.out.below b_)
  clear b_
  clear yc_0 yc_1 yc_2
  obtain ⟨yc_0, yc_1, yc_2⟩ := X_c.out.three
  go_wp2_with fail
  clear yc_0 yc_1 yc_2
  obtain ⟨bp, O_p⟩ : ∃ b, Hid (OwnI w5_ b (.slice A_p 7 c_p) P) := ⟨_, O_p⟩
  obtain ⟨bq, O_q⟩ : ∃ b, Hid (OwnI w5_ b (.slice A_q 7 c_q) Q) := ⟨_, O_q⟩
  have KW := Lib.hid (show ∀ W, Below w5_.heap.size w5_ W → OwnI W bp (.slice A_p 7 c_p) P ∧ OwnI W bq (.slice A_q 7 c_q) Q ∧ OwnI W bh (.slice A_h l0.length c_h) J ∧ OwnK W w.heap.size (.slice A_c t0.length a_c) (.slice C_c l0.length c_c) t0 l0 ∧ BoxV W w0_.heap.size [.int .i64 H, .slice A_c t0.length a_c, .slice C_c l0.length c_c] ∧ Below w.heap.size w W from fun W hb => ⟨O_p.out.below hb, O_q.out.below hb, O_h.out.below hb, O_c.out.below hb, X_c.out.below hb, S.out.trans (hb.mono S.out.size)⟩)
  have LT := Lib.hid O_c.out.ltB
  have hcw := S.out.size
  clear S O_c O_p O_l O_q O_h X_c X_l CP1 CP2 CL CH CK A0 hd'
  go_loopw [10] (fun jv wr => ∃ j : Nat, j ≤ 7 ∧ jv = .int .i64 (j : Int) ∧ Hid (Below w5_.heap.size w5_ wr)) (fun jv _ => 7 - (intOf jv).toNat)
  case atStart => exact ⟨0, by omega, rfl, Lib.hid (Below.refl _ _)⟩
  case round =>
    obtain ⟨j, hj, rfl, BX⟩ := hrel
    by_cases hjt : j < 7
    · have hj0 : (0 : Int) ≤ (j : Int) := by omega
      have hj1 : (j : Int) < 7 := by omega
      obtain ⟨O_p, O_q, oh, -, -, -⟩ := KW.out _ BX.out
      have O_h := Lib.hid oh
      clear oh KW A1 LT
      obtain ⟨gp, _, e1, _, _, zp, _⟩ := O_p.spot (k := j) (by rw [LP.out]; exact hjt)
      rw [LP.out] at e1
      simp only [Value.slice.injEq] at e1
      obtain ⟨rfl, em, rfl⟩ := e1
      clear em
      obtain ⟨gq, _, e1, _, _, zq, _⟩ := O_q.spot (k := j) (by rw [LQ.out]; exact hjt)
      rw [LQ.out] at e1
      simp only [Value.slice.injEq] at e1
      obtain ⟨rfl, em, rfl⟩ := e1
      clear em
      have F := Lib.hid (AT.out j hjt)
      rw [getD_lt (show j < P.length by rw [LP.out]; exact hjt), getD_lt (show j < Q.length by rw [LQ.out]; exact hjt)] at F
      have CA := Lib.hid (fun b W h => has_any (.slice A_h l0.length c_h) J (j : Int) b W h (by rw [LJ.out]; omega))
      unfold hasL at CA
      rw [F.out.1] at CA
      generalize P[j]'(by rw [LP.out]; exact hjt) = x at zp F CA
      generalize Q[j]'(by rw [LQ.out]; exact hjt) = y at zq F
      obtain ⟨-, F1, F2, F3, F4, F5, F6⟩ := F.out
      have gw : IntKind.i64.wrap (x + d) = x + d := IntWalk.i64_in _ (by omega)
      have NX := Lib.hid (And.intro F1 (And.intro F2 (And.intro F3 F4)))
      clear F F1 F2 F3 F4 F5 F6 O_p O_q AT LP LQ LJ HD L OK hm hh hcl hxa0 hxa1 hxb0 hxb1
      by_cases hx : x < 0
      · have ny : y < 0 := NX.out.1.1 hx
        have g0 : decide (0 ≤ x) = false := decide_eq_false (by omega)
        have g1 : decide (x < 0) = true := decide_eq_true (by omega)
        have g2 : decide (y < 0) = true := decide_eq_true (by omega)
        have g3 : decide (y < x) = false := decide_eq_false (by have := NX.out; omega)
        have g4 : decide (x + d < y) = false := decide_eq_false (by have := NX.out; omega)
        have g5 : decide (0 < x) = false := decide_eq_false (by omega)
        rw [g0] at CA
        clear NX
        go_wp2_with fail
        try simp only [List.append_eq, List.cons_append, List.nil_append]
        go_quiet (first | (go_at_call 16; refine Calls.quiet_of_same (CA.out bh _ ?_); exact O_h.out))
        go_wp2
        exact ⟨⟨j + 1, by omega, by go_num, Lib.hid (below_drewN BX.out _)⟩, by simp [intOf]; omega⟩
      have ny : ¬ y < 0 := fun h => hx (NX.out.1.2 h)
      by_cases h0 : 0 < x
      · have ey := NX.out.2.2.2 h0
        have g0 : decide (0 ≤ x) = true := decide_eq_true (by omega)
        have g1 : decide (x < 0) = false := decide_eq_false (by omega)
        have g2 : decide (y < 0) = false := decide_eq_false (by omega)
        have g3 : decide (y < x) = false := decide_eq_false (by have := NX.out; omega)
        have g4 : decide (x + d < y) = false := decide_eq_false (by have := NX.out; omega)
        have g5 : decide (0 < x) = true := decide_eq_true (by omega)
        have g6 : (y == x + d) = true := by simp [ey]
        clear ey
        rw [g0] at CA
        clear NX
        go_wp2_with fail
        try simp only [List.append_eq, List.cons_append, List.nil_append]
        go_quiet (first | (go_at_call 16; refine Calls.quiet_of_same (CA.out bh _ ?_); exact O_h.out))
        go_wp2
        exact ⟨⟨j + 1, by omega, by go_num, Lib.hid (below_drewN BX.out _)⟩, by simp [intOf]; omega⟩
      have g0 : decide (0 ≤ x) = true := decide_eq_true (by omega)
      have g1 : decide (x < 0) = false := decide_eq_false (by omega)
      have g2 : decide (y < 0) = false := decide_eq_false (by omega)
      have g3 : decide (y < x) = false := decide_eq_false (by have := NX.out; omega)
      have g4 : decide (x + d < y) = false := decide_eq_false (by have := NX.out; omega)
      have g5 : decide (0 < x) = false := decide_eq_false (by omega)
      rw [g0] at CA
      clear NX
      go_wp2_with fail
      try simp only [List.append_eq, List.cons_append, List.nil_append]
      go_quiet (first | (go_at_call 16; refine Calls.quiet_of_same (CA.out bh _ ?_); exact O_h.out))
      go_wp2
      exact ⟨⟨j + 1, by omega, by go_num, Lib.hid (below_drewN BX.out _)⟩, by simp [intOf]; omega⟩
    · obtain rfl : j = 7 := by omega
      obtain ⟨-, -, -, oc, xc, sc⟩ := KW.out _ BX.out
      have O_c := Lib.hid oc
      have X_c := Lib.hid xc
      have S := Lib.hid sc
      clear oc xc sc KW AT LP LQ LJ
      obtain ⟨yc_0, yc_1, yc_2⟩ := X_c.out.three
      have hm0 : (0 : Int) < (t0.length : Int) := by omega
      have hm1 : ((t0.length : Int) == 0) = false := by rw [beq_eq_false_iff_ne]; omega
      have hm2 : ¬ (t0.length : Int) = 0 := by omega
      obtain ⟨p, hp⟩ : ∃ p : Nat, xb % (t0.length : Int) = (p : Int) := ⟨(xb % (t0.length : Int)).toNat, (Int.toNat_of_nonneg (Int.emod_nonneg _ hm2)).symm⟩
      have hpz : p < t0.length := by have := Int.emod_lt_of_pos xb hm0; omega
      obtain ⟨ts, t1, t2, t3, t4, t5, t6, t7, t8⟩ := HD.out.tilt hpz
      have CT1 := Lib.hid (fun va vc b W h => t1 ▸ t2 ▸ implTilt H (p : Int) 3 va vc t0 l0 b W h (by omega) (by omega))
      have CT2 := Lib.hid (fun va vc b W h => t4 ▸ t5 ▸ implTilt H (p : Int) (-3) va vc ts l0 b W h (by omega) (by omega))
      unfold ctlV at CT1 CT2
      have TL := Lib.hid t3
      have TR := Lib.hid t6
      have TS := Lib.hid t7
      have T0 := Lib.hid t8
      clear t1 t2 t3 t4 t5 t6 t7 t8
      go_wp2_with fail
      go_quiet (first | (go_at_call 12; refine Calls.quiet_of_same (A1.out _ ?_); exact below_drewN S.out _))
      rw [hp]
      have SB := below_drewN (Below.refl wr.heap.size wr) nq
      clear yc_0 yc_1 yc_2
      replace S := Lib.hid (S.out.trans (SB.mono S.out.size))
      replace O_c := Lib.hid (O_c.out.below SB)
      replace X_c := Lib.hid (X_c.out.below SB)
      clear SB hp hm0 hm1 hm2 hxb0 hxb1 hxa0 hxa1 A1 BX
      generalize wr.drewN nq = W1 at O_c X_c S ⊢
      obtain ⟨yc_0, yc_1, yc_2⟩ := X_c.out.three
      go_wp2_with fail
      refine (CT1.out _ _ _ _ O_c.out).mono ?_
      rintro e w8_ ⟨va_t, vc_t, rfl, o_, b_⟩
      obtain ⟨A_t, a_t, C_t, c_t, rfl, rfl⟩ := o_.slice
      rw [TL.out] at o_ ⊢
      clear yc_0 yc_1 yc_2
      replace S := Lib.hid (S.out.trans (b_.mono S.out.size))
      replace O_c := Lib.hid (O_c.out.below b_)
      replace X_c := Lib.hid (X_c.out.below b_)
      have O_t := Lib.hid o_
      clear o_ b_ CT1
      unfold ctlV
      replace S := Lib.hid (S.out.alloc S.out.size (.cells #[.int .i64 H, .slice A_t t0.length a_t, .slice C_t l0.length c_t] 27))
      replace O_c := Lib.hid (O_c.out.alloc (.cells #[.int .i64 H, .slice A_t t0.length a_t, .slice C_t l0.length c_t] 27))
      replace O_t := Lib.hid (O_t.out.alloc (.cells #[.int .i64 H, .slice A_t t0.length a_t, .slice C_t l0.length c_t] 27))
      replace X_c := Lib.hid (X_c.out.alloc (.cells #[.int .i64 H, .slice A_t t0.length a_t, .slice C_t l0.length c_t] 27))
      have X_t := Lib.hid (boxV_new w8_ [.int .i64 H, .slice A_t t0.length a_t, .slice C_t l0.length c_t] 27)
      obtain ⟨bt, O_t⟩ : ∃ b, Hid (OwnK (w8_.alloc (.cells #[.int .i64 H, .slice A_t t0.length a_t, .slice C_t l0.length c_t] 27)) b (.slice A_t t0.length a_t) (.slice C_t l0.length c_t) ts l0) := ⟨_, O_t⟩
      obtain ⟨yc_0, yc_1, yc_2⟩ := X_c.out.three
      obtain ⟨yt_0, yt_1, yt_2⟩ := X_t.out.three
      go_wp2_with fail
      clear yc_0 yc_1 yc_2
      clear yt_0 yt_1 yt_2
      generalize w8_.alloc (.cells #[.int .i64 H, .slice A_t t0.length a_t, .slice C_t l0.length c_t] 27) = W2 at S O_c O_t X_c X_t ⊢
      have KW := Lib.hid (show ∀ W, Below W2.heap.size W2 W → OwnK W w.heap.size (.slice A_c t0.length a_c) (.slice C_c l0.length c_c) t0 l0 ∧ OwnK W bt (.slice A_t t0.length a_t) (.slice C_t l0.length c_t) ts l0 ∧ BoxV W w0_.heap.size [.int .i64 H, .slice A_c t0.length a_c, .slice C_c l0.length c_c] ∧ BoxV W w8_.heap.size [.int .i64 H, .slice A_t t0.length a_t, .slice C_t l0.length c_t] ∧ Below w.heap.size w W from fun W hb => ⟨O_c.out.below hb, O_t.out.below hb, X_c.out.below hb, X_t.out.below hb, S.out.trans (hb.mono S.out.size)⟩)
      clear S O_c O_t X_c X_t
      go_loopw [14, 15] (fun sv kv wq => ∃ k : Nat, k ≤ t0.length ∧ kv = .int .i64 (k : Int) ∧ sv = .int .i64 (sumTo ts t0 k) ∧ Hid (Below W2.heap.size W2 wq)) (fun _ kv _ => t0.length - (intOf kv).toNat)
      case atStart => exact ⟨0, by omega, rfl, rfl, Lib.hid (Below.refl _ _)⟩
      case round =>
        obtain ⟨k, hk, rfl, rfl, BX⟩ := hrel
        obtain ⟨oc, ot, xc, xt, sc⟩ := KW.out _ BX.out
        by_cases hkt : k < t0.length
        · have hk0 : (0 : Int) ≤ (k : Int) := by omega
          have hk1 : (k : Int) < (t0.length : Int) := by omega
          obtain ⟨yc_0, yc_1, yc_2⟩ := xc.three
          obtain ⟨yt_0, yt_1, yt_2⟩ := xt.three
          obtain ⟨gc, _, e1, _, _, zc, _⟩ := oc.1.spot hkt
          simp only [Value.slice.injEq] at e1
          obtain ⟨rfl, em, rfl⟩ := e1
          clear em
          obtain ⟨gt, _, e1, _, _, zt, _⟩ := ot.1.spot (k := k) (by rw [TL.out]; exact hkt)
          rw [TL.out] at e1
          simp only [Value.slice.injEq] at e1
          obtain ⟨rfl, em, rfl⟩ := e1
          clear em
          have b1 := HD.out.arm hkt
          have b2 := TR.out k (by rw [TL.out]; exact hkt)
          have b3 := TS.out k
          have MO := Lib.hid (show sumTo ts t0 (k + 1) = sumTo ts t0 k + ts[k]'(by rw [TL.out]; exact hkt) - t0[k] by rw [sumTo, getD_lt (show k < ts.length by rw [TL.out]; exact hkt), getD_lt hkt])
          clear oc ot xc xt sc KW TR TS T0 HD L OK
          generalize t0[k] = y at zc b1 MO
          generalize ts[k]'(by rw [TL.out]; exact hkt) = x at zt b2 MO
          generalize sumTo ts t0 k = s at b3 MO ⊢
          have gw1 : IntKind.i64.wrap (s + x) = s + x := IntWalk.i64_in _ (by omega)
          have gw2 : IntKind.i64.wrap (s + x - y) = s + x - y := IntWalk.i64_in _ (by omega)
          go_wp2_with fail
          go_quiet (fail)
          go_wp2
          exact ⟨⟨k + 1, by omega, by go_num, by rw [MO.out], Lib.hid (below_drewN BX.out _)⟩, by simp [intOf]; omega⟩
        · obtain rfl : k = t0.length := by omega
          rw [T0.out]
          have O_c := Lib.hid oc
          have O_t := Lib.hid ot
          have X_c := Lib.hid xc
          have X_t := Lib.hid xt
          have S := Lib.hid sc
          clear oc ot xc xt sc KW TR TS T0 BX
          obtain ⟨yc_0, yc_1, yc_2⟩ := X_c.out.three
          obtain ⟨yt_0, yt_1, yt_2⟩ := X_t.out.three
          go_wp2_with fail
          refine (CT2.out _ _ _ _ O_t.out).mono ?_
          rintro e w10_ ⟨va_u, vc_u, rfl, o_, b_⟩
          obtain ⟨A_u, a_u, C_u, c_u, rfl, rfl⟩ := o_.slice
          replace S := Lib.hid (S.out.trans (b_.mono S.out.size))
          replace O_c := Lib.hid (O_c.out.below b_)
          replace O_t := Lib.hid (O_t.out.below b_)
          replace X_c := Lib.hid (X_c.out.below b_)
          replace X_t := Lib.hid (X_t.out.below b_)
          have O_u := Lib.hid o_
          clear o_ b_
          unfold ctlV
          replace S := Lib.hid (S.out.alloc S.out.size (.cells #[.int .i64 H, .slice A_u t0.length a_u, .slice C_u l0.length c_u] 27))
          replace O_c := Lib.hid (O_c.out.alloc (.cells #[.int .i64 H, .slice A_u t0.length a_u, .slice C_u l0.length c_u] 27))
          replace O_t := Lib.hid (O_t.out.alloc (.cells #[.int .i64 H, .slice A_u t0.length a_u, .slice C_u l0.length c_u] 27))
          replace O_u := Lib.hid (O_u.out.alloc (.cells #[.int .i64 H, .slice A_u t0.length a_u, .slice C_u l0.length c_u] 27))
          replace X_c := Lib.hid (X_c.out.alloc (.cells #[.int .i64 H, .slice A_u t0.length a_u, .slice C_u l0.length c_u] 27))
          replace X_t := Lib.hid (X_t.out.alloc (.cells #[.int .i64 H, .slice A_u t0.length a_u, .slice C_u l0.length c_u] 27))
          have X_u := Lib.hid (boxV_new w10_ [.int .i64 H, .slice A_u t0.length a_u, .slice C_u l0.length c_u] 27)
          clear yc_0 yc_1 yc_2
          clear yt_0 yt_1 yt_2
          obtain ⟨yc_0, yc_1, yc_2⟩ := X_c.out.three
          obtain ⟨yu_0, yu_1, yu_2⟩ := X_u.out.three
          go_wp2_with fail
          refine (sameInts_same _ _ t0 _ _ _ O_u.out.1 O_c.out.1 (by omega)).mono ?_
          rintro e w11_ ⟨rfl, b_⟩
          replace S := Lib.hid (S.out.trans (b_.mono S.out.size))
          clear b_
          clear yc_0 yc_1 yc_2
          clear yu_0 yu_1 yu_2
          go_wp2
          go_ret
          exact ⟨rfl, S.out⟩
end Go.Proofs.Ytigiechidcndpaa
