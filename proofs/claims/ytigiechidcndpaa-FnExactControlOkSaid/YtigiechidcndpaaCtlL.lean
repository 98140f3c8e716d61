/- The law FnExactControlOk, walked over the contracts of both functions and of those that copy, compare, mark and look (made by gen_ctl.py). No condition. -/
import Derived.Test.YtigiechidcndpaaCtlS
import Derived.Test.YtigiechidcndpaaCtlI
set_option linter.unusedVariables false
namespace Go.Proofs.Ytigiechidcndpaa
open Go.RowKit

set_option maxRecDepth 100000 in
set_option maxHeartbeats 3200000 in
theorem FnExactControlOk_walk (J0 : Int) (a0 : Option Addr) (n0 cap0 : Nat) (z0 : List Int) (c0 : Option Addr) (cc0 : Nat) (l0 : List Lb) (x1 : Int) (w : World) (hJ : (Lit.int .i64 J0).wf = true) (r0 : IsRow .i64 w a0 n0 cap0 z0) (w0 : ArgL w c0 l0) (m0 : l0.length ≤ maxLen) (hx1 : (Lit.int .i64 x1).wf = true) :
    Calls Try.prog 4 #[.agg #[.int .i64 J0, .slice a0 n0 cap0, .slice c0 l0.length cc0], .int .i64 x1] w fun e w' => e = .returned (.bool true) ∧ Below w.heap.size w w' := by
  unfold maxLen at m0
  have mx := irow_max r0
  by_cases hn : n0 ≤ 1048576
  rotate_left
  · have Z := Lib.hid (fun W => szControl_out1 J0 a0 n0 cap0 c0 l0.length cc0 W (by omega) mx)
    clear r0 w0
    go_enter Try.func4, Try.ntmps4
    go_wp2_with (go_at_call 19; (with_reducible refine (Z.out _).mono ?_); rintro e w' ⟨rfl, rfl⟩)
    go_ret
    exact ⟨rfl, ((Below.refl _ _).alloc (Nat.le_refl _) _).alloc (by simp) _⟩
  by_cases hs : n0 + l0.length ≤ 1048576
  rotate_left
  · have Z := Lib.hid (fun W => szControl_out2 J0 a0 n0 cap0 c0 l0.length cc0 W hn (by omega) (by omega))
    clear r0 w0
    go_enter Try.func4, Try.ntmps4
    go_wp2_with (go_at_call 19; (with_reducible refine (Z.out _).mono ?_); rintro e w' ⟨rfl, rfl⟩)
    go_ret
    exact ⟨rfl, ((Below.refl _ _).alloc (Nat.le_refl _) _).alloc (by simp) _⟩
  have T := Lib.hid (fun W h g => toControl_walk J0 a0 n0 cap0 z0 c0 cc0 l0 W h g hn (by omega))
  have hk := irow_len r0
  generalize z0.take n0 = t0 at T hk
  subst hk
  have Z := Lib.hid (fun W => szControl_in J0 a0 t0.length cap0 c0 l0.length cc0 W hs)
  have Q := Lib.hid (fun va1 vc1 va2 vc2 b1 b2 W h1 h2 => eqControl_same J0 va1 vc1 va2 vc2 t0 l0 b1 b2 W h1 h2 (by omega) (by omega))
  have CS := Lib.hid (fun va vc b W h => specCtl J0 va vc t0 l0 x1 b W h (by omega) (by omega) hx1)
  have CI := Lib.hid (fun va vc b W h => implCtl J0 va vc t0 l0 x1 b W h (by omega) (by omega))
  generalize ctlOk J0 t0 l0 x1 = r at CS CI
  have hrr : (r != r) = false := by simp
  have KF := Lib.hid (show ∀ W, Below ((w.alloc (.cells #[.int .i64 J0, .slice a0 t0.length cap0, .slice c0 l0.length cc0] 40)).alloc (.cells #[.int .i64 J0, .slice a0 t0.length cap0, .slice c0 l0.length cc0] 40)).heap.size ((w.alloc (.cells #[.int .i64 J0, .slice a0 t0.length cap0, .slice c0 l0.length cc0] 40)).alloc (.cells #[.int .i64 J0, .slice a0 t0.length cap0, .slice c0 l0.length cc0] 40)) W → W.cell? ⟨w.heap.size, 0, none⟩ = some (.int .i64 J0) ∧ W.cell? ⟨w.heap.size, 1, none⟩ = some (.slice a0 t0.length cap0) ∧ W.cell? ⟨w.heap.size, 2, none⟩ = some (.slice c0 l0.length cc0) ∧ IsRow .i64 W a0 t0.length cap0 z0 ∧ ArgL W c0 l0 ∧ Below w.heap.size w W from fun W hb => ⟨cell_below (by simp [go_sem]) hb, cell_below (by simp [go_sem]) hb, cell_below (by simp [go_sem]) hb, irow_below (irow_alloc (irow_alloc r0 _) _) hb, ((w0.alloc _).alloc _).below hb, (((Below.refl w.heap.size w).alloc (Nat.le_refl _) _).alloc (by simp) _).trans (hb.mono (by simp <;> omega))⟩)
  have S := Lib.hid (Below.refl ((w.alloc (.cells #[.int .i64 J0, .slice a0 t0.length cap0, .slice c0 l0.length cc0] 40)).alloc (.cells #[.int .i64 J0, .slice a0 t0.length cap0, .slice c0 l0.length cc0] 40)).heap.size ((w.alloc (.cells #[.int .i64 J0, .slice a0 t0.length cap0, .slice c0 l0.length cc0] 40)).alloc (.cells #[.int .i64 J0, .slice a0 t0.length cap0, .slice c0 l0.length cc0] 40)))
  unfold ctlV at Q CS CI
  clear r0 w0
  go_enter Try.func4, Try.ntmps4
  go_wp2_with (go_at_call 19; (with_reducible refine (Z.out _).mono ?_); rintro e w' ⟨rfl, rfl⟩)
  obtain ⟨xa0, xa1, xa2⟩ := (show _ ∧ _ ∧ _ from ⟨(KF.out _ S.out).1, (KF.out _ S.out).2.1, (KF.out _ S.out).2.2.1⟩)
  go_wp2_with fail
  refine (T.out _ (KF.out _ S.out).2.2.2.1 (KF.out _ S.out).2.2.2.2.1).mono ?_
  rintro e w1_ ⟨va_s, vc_s, rfl, o_, b_⟩
  obtain ⟨A_s, a_s, C_s, c_s, rfl, rfl⟩ := o_.slice
  clear xa0 xa1 xa2
  have z1_ := b_.size
  try simp only [World.size_alloc] at z1_
  try simp only [World.size_drew] at z1_
  have S := Lib.hid (S.out.trans (b_.mono S.out.size))
  have O_s := Lib.hid o_
  have L_s := fun k hk => o_.ltB k hk
  try simp only [World.size_alloc] at L_s
  try simp only [World.size_drew] at L_s
  clear o_ b_
  unfold ctlV
  go_wp2_with fail
  refine (CS.out _ _ _ _ O_s.out).mono ?_
  rintro e w2_ ⟨rfl, b_⟩
  have z2_ := b_.size
  try simp only [World.size_alloc] at z2_
  try simp only [World.size_drew] at z2_
  have S := Lib.hid (S.out.trans (b_.mono S.out.size))
  have O_s := Lib.hid (O_s.out.below b_)
  clear b_
  obtain ⟨xa0, xa1, xa2⟩ := (show _ ∧ _ ∧ _ from ⟨(KF.out _ S.out).1, (KF.out _ S.out).2.1, (KF.out _ S.out).2.2.1⟩)
  go_wp2_with fail
  refine (T.out _ (KF.out _ S.out).2.2.2.1 (KF.out _ S.out).2.2.2.2.1).mono ?_
  rintro e w3_ ⟨va_x, vc_x, rfl, o_, b_⟩
  obtain ⟨A_x, a_x, C_x, c_x, rfl, rfl⟩ := o_.slice
  clear xa0 xa1 xa2
  have z3_ := b_.size
  try simp only [World.size_alloc] at z3_
  try simp only [World.size_drew] at z3_
  have S := Lib.hid (S.out.trans (b_.mono S.out.size))
  have O_x := Lib.hid o_
  have L_x := fun k hk => o_.ltB k hk
  try simp only [World.size_alloc] at L_x
  try simp only [World.size_drew] at L_x
  clear o_ b_
  unfold ctlV
  have S := Lib.hid (S.out.alloc S.out.size (.cells #[.int .i64 J0, .slice A_x t0.length a_x, .slice C_x l0.length c_x] 27))
  have O_x := Lib.hid (O_x.out.alloc (.cells #[.int .i64 J0, .slice A_x t0.length a_x, .slice C_x l0.length c_x] 27))
  have X_x := Lib.hid (boxV_new w3_ [.int .i64 J0, .slice A_x t0.length a_x, .slice C_x l0.length c_x] 27)
  have zb_x := World.size_alloc w3_ (.cells #[.int .i64 J0, .slice A_x t0.length a_x, .slice C_x l0.length c_x] 27)
  obtain ⟨yx_0, yx_1, yx_2⟩ := X_x.out.three
  go_wp2_with fail
  refine (CI.out _ _ _ _ O_x.out).mono ?_
  rintro e w4_ ⟨rfl, b_⟩
  have z4_ := b_.size
  try simp only [World.size_alloc] at z4_
  try simp only [World.size_drew] at z4_
  have S := Lib.hid (S.out.trans (b_.mono S.out.size))
  have O_x := Lib.hid (O_x.out.below b_)
  have X_x := Lib.hid (X_x.out.below b_)
  clear b_
  clear yx_0 yx_1 yx_2
  obtain ⟨xa0, xa1, xa2⟩ := (show _ ∧ _ ∧ _ from ⟨(KF.out _ S.out).1, (KF.out _ S.out).2.1, (KF.out _ S.out).2.2.1⟩)
  obtain ⟨yx_0, yx_1, yx_2⟩ := X_x.out.three
  go_wp2_with fail
  go_region_held3 (fun w' => w'.cell? ⟨w3_.heap.size, 0, none⟩ = some (.int .i64 J0) ∧ w'.cell? ⟨w3_.heap.size, 1, none⟩ = some (.slice A_x t0.length a_x) ∧ w'.cell? ⟨w3_.heap.size, 2, none⟩ = some (.slice C_x l0.length c_x) ∧ w'.cell? ⟨w.heap.size, 0, none⟩ = some (.int .i64 J0) ∧ w'.cell? ⟨w.heap.size, 1, none⟩ = some (.slice a0 t0.length cap0) ∧ w'.cell? ⟨w.heap.size, 2, none⟩ = some (.slice c0 l0.length cc0))
    (first | exact ⟨yx_0, yx_1, yx_2, xa0, xa1, xa2⟩ | exact K1_.out | exact K2_.out)
    (first | (go_at_call 21; (with_reducible refine (T.out _ ?_ ?_).mono ?_); (exact (KF.out _ S.out).2.2.2.1); (exact (KF.out _ S.out).2.2.2.2.1); rintro e w5_ ⟨va_t, vc_t, rfl, o_, b1_⟩; obtain ⟨A_t, a_t, C_t, c_t, rfl, rfl⟩ := o_.slice; unfold ctlV; replace b1_ := undrew b1_; have S1_ := Lib.hid (S.out.trans (b1_.mono S.out.size)); have P1_x := Lib.hid (O_x.out.below b1_); have X1_x := Lib.hid (X_x.out.below b1_); have K1_ := Lib.hid (And.intro X1_x.out.three.1 (And.intro X1_x.out.three.2.1 (And.intro X1_x.out.three.2.2 (And.intro (KF.out _ S1_.out).1 (And.intro (KF.out _ S1_.out).2.1 (KF.out _ S1_.out).2.2.1)))))) | (go_at_call 22; (with_reducible refine (Q.out _ _ _ _ _ _ _ P1_x.out o_).mono ?_); rintro e w6_ ⟨rfl, b2_⟩; have S2_ := Lib.hid (S1_.out.trans (b2_.mono S1_.out.size)); have P2_x := Lib.hid (P1_x.out.below b2_); have X2_x := Lib.hid (X1_x.out.below b2_); have K2_ := Lib.hid (And.intro X2_x.out.three.1 (And.intro X2_x.out.three.2.1 (And.intro X2_x.out.three.2.2 (And.intro (KF.out _ S2_.out).1 (And.intro (KF.out _ S2_.out).2.1 (KF.out _ S2_.out).2.2.1)))))))
  have S := S2_
  have O_x := P2_x
  have X_x := X2_x
  have z5_ := b1_.size
  have z6_ := b2_.size
  try simp only [World.size_alloc] at z5_ z6_
  try simp only [World.size_drew] at z5_ z6_
  clear o_ b1_ b2_ S1_ S2_ K1_ K2_ P1_x P2_x X1_x X2_x
  clear xa0 xa1 xa2
  clear yx_0 yx_1 yx_2
  go_wp2
  go_ret
  exact ⟨rfl, (KF.out _ S.out).2.2.2.2.2⟩
end Go.Proofs.Ytigiechidcndpaa
